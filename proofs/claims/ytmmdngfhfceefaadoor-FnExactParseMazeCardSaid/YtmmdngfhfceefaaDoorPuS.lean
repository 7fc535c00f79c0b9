/- The model's ParseUint answers the number whose decimal text its argument is. -/
import Derived.Test.YtmmdngfhfceefaaDoorPuP
import Derived.Test.YtmmdngfhfceefaaDoorFmtS
import Derived.Test.YtmmdngfhfceefaaDoorFmtP
import Derived.Test.YtmmdngfhfceefaaDoorFig
import Derived.WalkKit
import Derived.ProofKit
import Derived.OpenShut
import Derived.Below
import Derived.LoopTactic
import Derived.OwnWalk
import Derived.Deep.RegionHeld3
import Derived.Deep.AppendLies
import Derived.Lib.Hide
import Derived.Outline
import Derived.Laws.BytesArg
import Derived.Laws.BitsLemmas
import Derived.Laws.MakeOwn
import Derived.Laws.IdiomStrings
namespace Go.Proofs.YtmmdngfhfceefaaDoor.puS
open Go.ChangeShapes Go.WideShapes Go.ChangeAt Go.RowKit
open hexP fmtP puP
set_option linter.unusedVariables false



/-- At the head of a round: k digits are read, n is their number. -/
def PuRel (s : ByteArray) (u4 u5 : Value) : Prop :=
  ∃ (k n : Nat), k ≤ s.size ∧ u5 = .int .i64 k ∧ u4 = .int .i64 n ∧ n < 10 ^ k ∧ Lib.decFrom 0 (s.data.toList.take k) = some n
theorem pu_step {s : ByteArray} {k n : Nat} (hlt : k < s.size) (hn : n < 10 ^ k) (hd : Lib.decFrom 0 (s.data.toList.take k) = some n) (h1 : 48 ≤ s[k].toNat) (h2 : s[k].toNat ≤ 57) :
    PuRel s (.int .i64 (10 * (n : Int) + (s[k].toNat : Int) - 48)) (.int .i64 ((k : Int) + 1)) := by
  refine ⟨k + 1, 10 * n + (s[k].toNat - 48), hlt, by go_num, ?_, by rw [Nat.pow_succ]; omega, ?_⟩
  · rw [show 10 * (n : Int) + (s[k].toNat : Int) - 48 = ((10 * n + (s[k].toNat - 48) : Nat) : Int) from by omega]
  · rw [take_snoc s k hlt, decFrom_snoc, hd]
    have e : Lib.digitVal s[k] = some (s[k].toNat - 48) := by unfold Lib.digitVal; rw [if_pos ⟨h1, h2⟩]
    simp only [Option.bind_some, e, Option.map_some]
    congr 1; omega
theorem dec_bad : ∀ (l : List UInt8) (acc k : Nat) (b : UInt8), l[k]? = some b → ¬ (48 ≤ b.toNat ∧ b.toNat ≤ 57) → Lib.decFrom acc l = none
  | [], _, _, _, h, _ => by simp at h
  | c :: l, acc, 0, b, h, hb => by
    simp at h; subst h
    simp only [Lib.decFrom, Lib.digitVal, if_neg hb]
  | c :: l, acc, k + 1, b, h, hb => by
    simp only [Lib.decFrom]
    cases Lib.digitVal c with
    | none => rfl
    | some d => exact dec_bad l _ k b (by simpa using h) hb

theorem long_no (s : ByteArray) (h : 10 < s.size) : ∀ v, ¬ IsNum s.data.toList v := fun v hv => by
  have := hv.len
  have e : s.data.toList.length = s.size := by simp
  omega

set_option maxRecDepth 100000 in
theorem parse_any (s : ByteArray) (w : World) (hs : s.size ≤ maxLen) :
    Calls Tryd.prog 37 #[.string s] w (PuPost s.data.toList w) := by
  unfold maxLen at hs
  have HR := Lib.hid (Below.refl w.heap.size w)
  by_cases hl : 10 < s.size
  · have HP := Lib.hid (pu_no (w := w) (w' := w) (long_no s hl) HR.out)
    go_enter Tryd.func37, Tryd.ntmps37
    go_wp2_with fail
    go_ret2
    exact HP.out
  · go_enter Tryd.func37, Tryd.ntmps37
    go_wp2_with fail
    go_loop [4, 5] (fun u4 u5 => PuRel s u4 u5) (fun _ u5 => s.size - (intOf u5).toNat)
    case atStart => exact ⟨0, 0, Nat.zero_le _, rfl, rfl, by simp, by simp [Lib.decFrom]⟩
    case round =>
      obtain ⟨k, n, hk, rfl, rfl, hn, hd⟩ := hrel
      have hp : 10 ^ k ≤ 10 ^ 10 := Nat.pow_le_pow_right (by decide) (by omega)
      have e10 : (10 : Nat) ^ 10 = 10000000000 := by decide
      have hn2 : n < 10000000000 := by omega
      have HD := Lib.hid hd
      have HN := Lib.hid hn
      clear hd hp e10 hn
      by_cases hlt : k < s.size
      · have hk0 : (0 : Int) ≤ (k : Int) := Int.natCast_nonneg _
        have hk1 : (k : Int) < (s.size : Int) := by omega
        by_cases hdig : 48 ≤ s[k].toNat ∧ s[k].toNat ≤ 57
        · have HS := Lib.hid (pu_step hlt HN.out HD.out hdig.1 hdig.2)
          have h1 : (48 : Int) ≤ (s[k].toNat : Int) := by omega
          have h2 : (s[k].toNat : Int) ≤ 57 := by omega
          clear hdig
          go_wp2_with fail
          go_round
          case rel => exact HS.out
          case measure => simp [intOf]; omega
        · have hno : ∀ v, ¬ IsNum s.data.toList v := no_of_none (dec_bad s.data.toList 0 k s[k] (by
            rw [List.getElem?_eq_getElem (by simpa using hlt)]; rfl) hdig)
          have HP := Lib.hid (pu_no (w := w) (w' := w) hno HR.out)
          clear hno
          by_cases h3 : s[k].toNat < 48
          · have h1 : (s[k].toNat : Int) < 48 := by omega
            clear hdig h3
            go_wp2_with fail
            go_ret2
            exact HP.out
          · have h1 : (48 : Int) ≤ (s[k].toNat : Int) := by omega
            have h2 : (57 : Int) < (s[k].toNat : Int) := by omega
            clear hdig h3
            go_wp2_with fail
            go_ret2
            exact HP.out
      · obtain rfl : k = s.size := by omega
        have hd2 : Lib.decFrom 0 s.data.toList = some n := by
          have := HD.out
          rwa [List.take_of_length_le (by simp)] at this
        by_cases hbig : 1000000000 < n
        · have HP := Lib.hid (pu_no (w := w) (w' := w) (no_of_dec hd2 (fun h => by have := h.2.1; omega)) HR.out)
          clear hd2
          go_wp2_with fail
          go_ret2
          exact HP.out
        · have HF := Lib.hid (fmtS.format_any (n : Int) w (by omega) (by omega))
          by_cases heq : Lib.itoa (n : Int) = s.data.toList
          · have hnum : IsNum s.data.toList (n : Int) := ⟨by omega, by omega, heq⟩
            have HP := Lib.hid (fun w' h => pu_yes (w := w) (w' := w') hnum h)
            have hs2 : (⟨(Lib.itoa (n : Int)).toArray⟩ : ByteArray) = s := by rw [heq]
            have HE := Lib.hid hs2
            clear hd2 hnum heq hs2
            go_wp2_with fail
            refine HF.out.mono ?_
            rintro e w1 ⟨rfl, hb1⟩
            rw [HE.out]
            go_wp2_with fail
            go_ret2
            exact HP.out _ hb1
          · have HP := Lib.hid (fun w' h => pu_no (w := w) (w' := w') (no_of_dec hd2 (fun h => heq h.2.2)) h)
            have hne : (Lib.itoa (n : Int) == s.toList) = false := by
              rw [beq_eq_false_iff_ne]; intro e; exact heq (by rw [e]; exact ByteArray.toList_eq s)
            clear hd2
            go_wp2_with fail
            refine HF.out.mono ?_
            rintro e w1 ⟨rfl, hb1⟩
            go_wp2_with fail
            go_ret2
            exact HP.out _ hb1
end Go.Proofs.YtmmdngfhfceefaaDoor.puS
