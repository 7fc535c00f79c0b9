/- The contract of the program's text of a way. -/
import Derived.Test.YteigidafabnjpaaWayP
import Derived.Test.YteigidafabnjpaaBase
import Derived.Test.YteigidafabnjpaaListK
import Derived.Test.YteigidafabnjpaaBldI
namespace Go.Proofs.Yteigidafabnjpaa.wayI
open Go.ChangeShapes Go.WideShapes Go.ChangeAt Go.RowKit
open draw gridP gridC mazeC intsP boolP reachD intA listK wayP bldI
set_option linter.unusedVariables false

/-- While a text is written: its builder, the directions. -/
def TW (W : World) (A : Option Addr) (l : List Int) (t : List UInt8) (X : World) : Prop := Below W.heap.size W X ∧ Bd W.heap.size W.heap.size (Lib.byteCells t) X ∧ IntsIn X W.heap.size A l
theorem TW.go {W X X' : World} {A : Option Addr} {l : List Int} {t t' : List UInt8} {bs : List Value} (h : TW W A l t X) (hb : Bd W.heap.size W.heap.size bs X') (hw : Below W.heap.size X X') (e : bs = Lib.byteCells t') : TW W A l t' X' := by
  subst e
  exact ⟨h.1.trans hw, hb, h.2.2.below hw⟩
theorem tx_one {l : List Int} {k : Nat} {u : Int} (hu : l[k]? = some u) {v : Value} (hv : v = .int .u8 (ltr u).toNat) : Lib.byteCells (txL (l.take k)) ++ [v] = Lib.byteCells (txL (l.take (k + 1))) := by
  subst hv
  rw [byteCells_snoc, take_one hu]
  congr 1; simp [txL]

set_option maxRecDepth 100000 in
theorem wayText_any (A : Option Addr) (n c : Nat) (l : List Int) (W : World) (hn : l.length = n) (hm : n ≤ 1048576) (hi : IntsIn W W.heap.size A l) :
    Calls Try.prog 18 #[.slice A n c] W (Tx (wtB l) W) := by
  have Hn := Lib.hid hn
  have HK := @Lib.hid _ (fun w' s h b => @tx_mk (wtB l) s W w' h b)
  have HT0 : Hid (TW W A l (txL (l.take 0)) (W.alloc (.cells #[.pointer none, .slice none 0 0] 62))) :=
    ⟨below_box W _, bd_new W, hi.below (below_box W _)⟩
  have HWr := Lib.hid (fun (t : List UInt8) c X h hl hB => write_byte W.heap.size W.heap.size (Lib.byteCells t) c X h hl hB)
  have HSt := Lib.hid (fun t X h hB => bd_string W.heap.size W.heap.size t X h hB)
  have HBad : Hid (∀ u, u ∈ l → ¬ (0 ≤ u ∧ u ≤ 3) → (⟨#[]⟩ : ByteArray) = wtB l) := fun u hu hd => by
    unfold wtB; rw [if_neg fun h => hd (way_mem.1 h u hu)]
  clear hi hn
  go_enter Try.func18, Try.ntmps18
  go_wp2_with fail
  go_loopw [8] (fun u8 wr => ∃ k : Nat, k ≤ n ∧ u8 = .int .i64 k ∧ (∀ d ∈ l.take k, 0 ≤ d ∧ d ≤ 3) ∧ TW W A l (txL (l.take k)) wr) (fun u8 _ => n - (intOf u8).toNat)
  case atStart => exact ⟨0, Nat.zero_le _, rfl, by simp, HT0.out⟩
  case round =>
    clear HT0
    obtain ⟨k, hk, rfl, hin, htw0⟩ := hrel
    have htw := Lib.hid htw0
    have HIn := Lib.hid hin
    have hsz := htw0.1.size
    clear htw0 hin
    by_cases hkn : k < n
    · obtain ⟨u, hu, hmem⟩ : ∃ u, l[k]? = some u ∧ u ∈ l := by
        have hkl : k < l.length := by have := Hn.out; omega
        exact ⟨l[k], List.getElem?_eq_getElem hkl, List.getElem_mem hkl⟩
      obtain ⟨ad, rfl, hab, hcell⟩ := ints_cell htw.out.2.2 hu
      have HU := Lib.hid hu
      have hk0 : (0 : Int) ≤ (k : Int) := Int.natCast_nonneg _
      have hk1 : (k : Int) < (n : Int) := by omega
      have hlen : (Lib.byteCells (txL (l.take k))).length + 1 ≤ 140737488355328 := by
        rw [Lib.byteCells_length]; unfold txL; rw [List.length_map, List.length_take]; omega
      by_cases hd : 0 ≤ u ∧ u ≤ 3
      · have HNew : Hid (∀ d ∈ l.take (k + 1), 0 ≤ d ∧ d ≤ 3) := fun d hd' => by
          rw [take_one HU.out] at hd'
          rcases List.mem_append.1 hd' with h | h
          · exact HIn.out d h
          · rw [List.mem_singleton.1 h]; exact hd
        have h4 : u = 0 ∨ u = 1 ∨ u = 2 ∨ u = 3 := by omega
        clear hu hmem hd
        rcases h4 with rfl | rfl | rfl | rfl <;>
        · go_wp2_with fail
          refine (HWr.out _ _ _ htw.out.2.1 hlen hsz).mono ?_
          rintro e w1 ⟨rfl, h1, b1⟩
          go_wp2_with fail
          go_roundw
          case rel => exact ⟨k + 1, by omega, by go_num, HNew.out, htw.out.go h1 b1 (tx_one HU.out rfl)⟩
          case measure => simp [intOf]; omega
      · have HE := Lib.hid (HBad.out u hmem hd)
        clear hu hmem
        by_cases h0 : u < 0
        · have d0 : decide (u < 0) = true := decide_eq_true h0
          clear hd h0
          go_wp2_with fail
          go_ret
          exact HK.out _ _ HE.out htw.out.1
        · have d0 : decide (u < 0) = false := decide_eq_false h0
          have d1 : decide (3 < u) = true := decide_eq_true (by omega)
          clear hd h0
          go_wp2_with fail
          go_ret
          exact HK.out _ _ HE.out htw.out.1
    · obtain rfl : k = n := by omega
      have et : l.take k = l := List.take_of_length_le (by have := Hn.out; omega)
      rw [et] at htw HIn
      have HE : Hid ((⟨(txL l).toArray⟩ : ByteArray) = wtB l) := Lib.hid (by unfold wtB; rw [if_pos (way_mem.2 HIn.out)])
      clear et HIn
      go_wp2_with fail
      refine (HSt.out _ _ htw.out.2.1 hsz).mono ?_
      rintro e w1 ⟨rfl, h1, b1⟩
      have hbl := Lib.hid (htw.out.1.trans b1)
      go_wp2_with fail
      go_ret
      exact HK.out _ _ HE.out hbl.out
end Go.Proofs.Yteigidafabnjpaa.wayI
