/- The program's DecodeHex answers the bytes that its argument says, if all its digits are digits. -/
import Derived.Test.YtijpbjnghkkdeaaDoorDecP
import Derived.Test.YtijpbjnghkkdeaaDoorShelf
import Derived.WalkKit
import Derived.ProofKit
import Derived.OpenShut
import Derived.Below
import Derived.LoopTactic
import Derived.OwnWalk
import Derived.Deep.RegionHeld3
import Derived.Deep.AppendLies
import Derived.Lib.Hide
import Derived.Outline
import Derived.Laws.BytesArg
import Derived.Laws.BitsLemmas
import Derived.Laws.MakeOwn
import Derived.Laws.IdiomStrings
namespace Go.Proofs.YtijpbjnghkkdeaaDoor.decI1
open Go.ChangeShapes Go.WideShapes Go.ChangeAt Go.RowKit
open hexP decP
set_option linter.unusedVariables false

theorem info_u8 : (Tryd.prog.info? 5).map (fun i => (i.zero, i.size, i.bytes)) = some (some (.int .u8 0), 1, 1) := by kernel_rfl


/-- The program's value of a digit. -/
theorem value_is (c : UInt8) (v : Int) (h : val c = v) (w : World) :
    Calls Tryd.prog 27 #[.string ⟨#[48, 49, 50, 51, 52, 53, 54, 55, 56, 57, 97, 98, 99, 100, 101, 102]⟩, .int .u8 (c.toNat : Int)] w fun e w' => e = .returned (.int .i64 v) ∧ w = w' := by
  refine (Tryd.strings_IndexByte _ _ w).mono ?_
  rintro e w' ⟨rfl, rfl⟩
  refine ⟨?_, rfl⟩
  have e1 : ((c.toNat : Int)).toNat.toUInt8 = c := by simp
  rw [e1, ← h, ← index_val]

set_option maxRecDepth 100000 in
theorem decode_any (s : ByteArray) (w : World) (hs : s.size ≤ 40000) (he : s.size % 2 = 0) : Calls Tryd.prog 12 #[.string s] w (DecPost s w) := by
  obtain ⟨i0, hi0, hz0, hz1, hz2⟩ := info_parts info_u8
  have he' : ((s.size : Int) % 2 != 0) = false := by simp; omega
  go_enter Tryd.func12, Tryd.ntmps12
  go_wp2_with (at_make; refine wpList_make_own _ rfl _ _ 22 rfl w.heap.size 5 i0 (.int .u8 0) 1 Tryd.underlying22 hi0 hz0 hz1 .i64 .i64 _ (s.size / 2) rfl rfl (by omega) (by rw [hz2]; omega) (by unfold maxLen; omega) (Nat.le_refl _) ?_; intro w0 hown0 hg0)
  have hb0 : Below w.heap.size w w0 := (Below.refl _ _).grown hg0 (Nat.le_refl _) (fun k hk => by cases hk)
  clear hg0 he'
  go_loopw [4, 5] (fun u4 u5 wr => DecRel w s u4 u5 wr) (fun _ u5 _ => s.size - (intOf u5).toNat)
  case atStart => exact ⟨0, 0, rfl, Nat.zero_le _, rfl, fun j hj => absurd hj (by omega), by simpa [decI_zero, bcells] using hown0, hb0⟩
  case round =>
    obtain ⟨i, k, hk, hi, rfl, hall, hown, hb⟩ := hrel
    have HK := Lib.hid hk
    have HA := Lib.hid hall
    clear hown0 hb0 hk hall
    by_cases hlt : i < s.size
    · have hi2 : i % 2 = 0 := by have := HK.out; omega
      have hlt1 : i + 1 < s.size := by omega
      by_cases ha : 0 ≤ val s[i]
      · by_cases hbb : 0 ≤ val s[i + 1]
        · obtain ⟨x, hx⟩ := Int.eq_ofNat_of_zero_le ha
          obtain ⟨y, hy⟩ := Int.eq_ofNat_of_zero_le hbb
          have hx16 : x < 16 := by have := val_lt s[i]; omega
          have hy16 : y < 16 := by have := val_lt s[i + 1]; omega
          have K1 := Lib.hid (value_is s[i] x hx)
          have K2 := Lib.hid (value_is s[i + 1] y hy)
          have hbyte : byteAt (s.data.toList.getD i 0) (s.data.toList.getD (i + 1) 0) = UInt8.ofNat (16 * x + y) := by
            rw [at_getD s i hlt, at_getD s (i + 1) hlt1]; unfold byteAt; rw [hx, hy]; simp
          have HB := Lib.hid hbyte
          have hgood : good s i := ⟨by rw [at_getD s i hlt]; exact ha, by rw [at_getD s (i + 1) hlt1]; exact hbb⟩
          have HG := Lib.hid hgood
          clear ha hbb hx hy hbyte hgood
          go_wp2_with fail
          refine (K1.out _).mono ?_
          rintro e w' ⟨rfl, rfl⟩
          go_wp2_with fail
          refine (K2.out _).mono ?_
          rintro e w' ⟨rfl, rfl⟩
          go_wp2_with (at_builtin; refine wpList_append_lies _ rfl (.tmp 42) (.tmp 48) 22 rfl w.heap.size 5 i0 _ 1 1 Tryd.underlying22 hi0 hz0 hz1 hz2 rfl (by omega) _ k _ rfl (hown.alloc _) ⟨wr.heap.size, 0, none⟩ 1 1 (bcells [byteAt (s.data.toList.getD i 0) (s.data.toList.getD (i + 1) 0)]) rfl rfl (news_eq (or_cell x y hx16 hy16 HB.out) (heap_alloc_new wr _)) (oneCell _) (by omega) (by have := HK.out; unfold maxLen; omega) (by have := HK.out; omega) (by have := hb.size; simp; omega) (wr.heap.size + 1) (by simp) ?_; intro gg cap w1 hown1 hgrow hat hlt2; clear hat hlt2)
          go_roundw
          case rel => exact dec_step HK.out hlt1 HG.out HA.out hb hown hown1 hgrow
          case measure => simp [intOf]; omega
        · have ha0 := ha
          obtain ⟨x, hx⟩ := Int.eq_ofNat_of_zero_le ha
          have K1 := Lib.hid (value_is s[i] x hx)
          have hm : val s[i + 1] = -1 := by have := val_ge s[i + 1]; omega
          have K2 := Lib.hid (value_is s[i + 1] (-1) hm)
          have hgood : ¬ good s i := fun h => hbb (by rw [← at_getD s (i + 1) hlt1]; exact h.2)
          have HG := Lib.hid hgood
          have HD := Lib.hid (dec_bad (w := w) hi2 hlt1 hgood hb)
          clear ha ha0 hbb hx hm hgood
          go_wp2_with fail
          refine (K1.out _).mono ?_
          rintro e w' ⟨rfl, rfl⟩
          go_wp2_with fail
          refine (K2.out _).mono ?_
          rintro e w' ⟨rfl, rfl⟩
          go_wp2_with fail
          go_ret2
          exact HD.out
      · have hm : val s[i] = -1 := by have := val_ge s[i]; omega
        have K1 := Lib.hid (value_is s[i] (-1) hm)
        have K2 := Lib.hid (fun W => value_is s[i + 1] _ rfl W)
        have hgood : ¬ good s i := fun h => ha (by rw [← at_getD s i hlt]; exact h.1)
        have HD := Lib.hid (dec_bad (w := w) hi2 hlt1 hgood hb)
        clear ha hm hgood
        go_wp2_with fail
        refine (K1.out _).mono ?_
        rintro e w' ⟨rfl, rfl⟩
        go_wp2_with fail
        refine (K2.out _).mono ?_
        rintro e w' ⟨rfl, rfl⟩
        go_wp2_with fail
        go_ret2
        exact HD.out
    · have hall : AllGood s := fun j h2 hj => HA.out j (by omega) h2
      have HD := Lib.hid (dec_good hall hb)
      have hk2 : k = s.size / 2 := by have := HK.out; omega
      rw [hk2] at hown
      have hcv := run_convert_own (P := Tryd.prog) wr 22 9 5 Tryd.underlying22 Tryd.underlying5 Tryd.underlying9 _ hown
      clear hall hk2 hown
      go_wp2
      go_ret2
      exact HD.out
end Go.Proofs.YtijpbjnghkkdeaaDoor.decI1
