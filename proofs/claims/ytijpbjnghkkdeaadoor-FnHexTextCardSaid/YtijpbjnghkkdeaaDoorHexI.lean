/- The program's EncodeHex answers the hexadecimal text of its argument. -/
import Derived.Test.YtijpbjnghkkdeaaDoorHexP
import Derived.WalkKit
import Derived.ProofKit
import Derived.OpenShut
import Derived.Below
import Derived.LoopTactic
import Derived.OwnWalk
import Derived.Deep.RegionHeld3
import Derived.Deep.AppendLies
import Derived.Lib.Hide
import Derived.Outline
import Derived.Laws.BytesArg
import Derived.Laws.BitsLemmas
import Derived.Laws.MakeOwn
import Derived.Laws.IdiomStrings
namespace Go.Proofs.YtijpbjnghkkdeaaDoor.hexI
open Go.ChangeShapes Go.WideShapes Go.ChangeAt Go.RowKit
open hexP
set_option linter.unusedVariables false

theorem info_u8 : (Tryd.prog.info? 5).map (fun i => (i.zero, i.size, i.bytes)) = some (some (.int .u8 0), 1, 1) := by kernel_rfl

/-- At the head of a round: k bytes are written out. -/
def EncRel (w : World) (s : ByteArray) (u4 u15 : Value) (wr : World) : Prop :=
  ∃ k : Nat, k ≤ s.size ∧ u15 = .int .i64 k ∧ wr.ownsRow w.heap.size 5 1 u4 (2 * k) (bcells (hexOf (s.data.toList.take k))) ∧ Below w.heap.size w wr

theorem enc_step {w wr w1 : World} {s : ByteArray} {k gg cap : Nat} {v : Value} {o : Obj} (hlt : k < s.size) (hb : Below w.heap.size w wr) (hown : wr.ownsRow w.heap.size 5 1 v (2 * k) (bcells (hexOf (s.data.toList.take k))))
    (hown1 : w1.ownsRow w.heap.size 5 1 (.slice (some ⟨gg, 0, none⟩) (2 * k + 2) cap) (2 * k + 2) (bcells (hexOf (s.data.toList.take k)) ++ bcells (pair s[k]))) (hg : ((wr.alloc o).drew).grownBy w1 v.ownBlock) :
    EncRel w s (.slice (some ⟨gg, 0, none⟩) (2 * k + 2) cap) (.int .i64 ((k : Int) + 1)) w1 := by
  refine ⟨k + 1, hlt, by go_num, ?_, below_row hb hown (Nat.le_refl _) hb.size hg⟩
  rw [take_snoc s k hlt, hexOf_snoc, bcells_append]
  exact hown1

set_option maxRecDepth 100000 in
theorem encode_any (s : ByteArray) (w : World) (hs : s.size ≤ 20000) :
    Calls Tryd.prog 10 #[.string s] w fun e w' => e = .returned (.tuple #[.string ⟨(hexOf s.data.toList).toArray⟩, .bool true]) ∧ Below w.heap.size w w' := by
  obtain ⟨i0, hi0, hz0, hz1, hz2⟩ := info_parts info_u8
  go_enter Tryd.func10, Tryd.ntmps10
  go_wp2_with (at_make; refine wpList_make_own _ rfl _ _ 22 rfl w.heap.size 5 i0 (.int .u8 0) 1 Tryd.underlying22 hi0 hz0 hz1 .i64 .i64 _ (2 * s.size) rfl rfl (by omega) (by rw [hz2]; omega) (by unfold maxLen; omega) (Nat.le_refl _) ?_; intro w0 hown0 hg0)
  have hb0 : Below w.heap.size w w0 := (Below.refl _ _).grown hg0 (Nat.le_refl _) (fun k hk => by cases hk)
  clear hg0
  go_loopw [4, 15] (fun u4 u15 wr => EncRel w s u4 u15 wr) (fun _ u15 _ => s.size - (intOf u15).toNat)
  case atStart => exact ⟨0, Nat.zero_le _, rfl, by simpa [hexOf, bcells] using hown0, hb0⟩
  case round =>
    obtain ⟨k, hk, rfl, hown, hb⟩ := hrel
    clear hown0 hb0
    by_cases hlt : k < s.size
    · go_wp2
      have hk0 : (0 : Int) ≤ (k : Int) := Int.natCast_nonneg _
      have hk1 : (k : Int) < (s.size : Int) := by omega
      have hx0 : (0 : Int) ≤ (s[k].toNat : Int) := Int.natCast_nonneg _
      have hx1 : (s[k].toNat : Int) < 256 := by have := s[k].toNat_lt; omega
      have he15 := u8_and15 _ hx0 hx1
      have hb0 : (0 : Int) ≤ (s[k].toNat : Int) / 16 := by omega
      have hb00 : (0 : Int) ≤ (s[k].toNat : Int) % 16 := by omega
      have hb1 : (s[k].toNat : Int) / 16 < 16 := by have := s[k].toNat_lt; omega
      have hb2 : (s[k].toNat : Int) % 16 < 16 := by omega
      go_region_held3 (fun _ => True) (trivial)
        ((refine step_append_lies _ (by rfl) _ _ _ (by rfl) w.heap.size 5 i0 _ 1 1 Tryd.underlying22 hi0 hz0 hz1 hz2 rfl (by omega) _ (2 * k) (bcells (hexOf (s.data.toList.take k))) (by rfl) ((hown.alloc _).drew) ⟨wr.heap.size, 0, none⟩ 2 2 (bcells (pair s[k])) (by rfl) (by rfl) (news_eq (pair_cells s[k] _ _) (heap_alloc_new wr _)) (oneCell _) (by omega) (by unfold maxLen; omega) (by omega) (by have := hb.size; simp; omega) (wr.heap.size + 1) (by simp) ?_; intro gg cap w1 hown1 hgrow hat hlt1; clear hat hlt1))
      all_goals
        go_wp2
        go_roundw
        case rel => exact enc_step hlt hb hown hown1 hgrow
        case measure => simp [intOf]; omega
    · obtain rfl : k = s.size := by omega
      have hcv := run_convert_own (P := Tryd.prog) wr 22 9 5 Tryd.underlying22 Tryd.underlying5 Tryd.underlying9 _ hown
      rw [List.take_of_length_le (by simp)] at hcv
      go_wp2
      go_ret2
      exact ⟨rfl, hb⟩
end Go.Proofs.YtijpbjnghkkdeaaDoor.hexI
