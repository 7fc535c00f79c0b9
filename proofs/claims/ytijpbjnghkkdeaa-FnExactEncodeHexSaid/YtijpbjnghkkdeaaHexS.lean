/- The model's EncodeHex answers the hexadecimal text of its argument. -/
import Derived.Test.YtijpbjnghkkdeaaHexP
import Derived.WalkKit
import Derived.ProofKit
import Derived.OpenShut
import Derived.Below
import Derived.LoopTactic
import Derived.OwnWalk
import Derived.Deep.RegionHeld3
import Derived.Deep.AppendLies
import Derived.Lib.Hide
import Derived.Outline
import Derived.Laws.BytesArg
import Derived.Laws.BitsLemmas
import Derived.Laws.MakeOwn
import Derived.Laws.IdiomStrings
namespace Go.Proofs.Ytijpbjnghkkdeaa.hexS
open Go.ChangeShapes Go.WideShapes Go.ChangeAt Go.RowKit
open hexP
set_option linter.unusedVariables false


theorem ret_u8 {a b : Int} (h : a = b) : Ending.returned (.int .u8 a) = .returned (.int .u8 b) := by rw [h]

/-- The model's digit of a half byte. -/
theorem figure_any (x : Int) (w : World) (h0 : 0 ≤ x) (h1 : x < 16) :
    Calls Try.prog 25 #[.int .i64 x] w fun e w' => e = .returned (.int .u8 ((fig x.toNat).toNat : Int)) ∧ w = w' := by
  have hf := fig_lt x.toNat (by omega)
  have HF := Lib.hid hf
  clear hf
  by_cases h : x < 10
  · go_enter Try.func25, Try.ntmps25
    go_wp2
    go_ret
    refine ⟨ret_u8 ?_, rfl⟩
    rw [HF.out, if_pos (by omega)]
    omega
  · go_enter Try.func25, Try.ntmps25
    go_wp2
    go_ret
    refine ⟨ret_u8 ?_, rfl⟩
    rw [HF.out, if_neg (by omega)]
    omega

theorem figure_hi (c : UInt8) (w : World) : Calls Try.prog 25 #[.int .i64 (IntKind.i64.wrap ((IntKind.i64.wrap (c.toNat : Int)).tdiv 16))] w fun e w' => e = .returned (.int .u8 ((fig (c.toNat / 16)).toNat : Int)) ∧ w = w' := by
  have hc := c.toNat_lt
  have e1 : IntKind.i64.wrap (c.toNat : Int) = c.toNat := IntWalk.i64_in _ (by omega)
  have e2 : (c.toNat : Int).tdiv 16 = ((c.toNat / 16 : Nat) : Int) := by rw [Int.tdiv_eq_ediv_of_nonneg (by omega)]; omega
  have e3 : IntKind.i64.wrap ((c.toNat / 16 : Nat) : Int) = ((c.toNat / 16 : Nat) : Int) := IntWalk.i64_in _ (by omega)
  rw [e1, e2, e3]
  exact figure_any _ w (by omega) (by omega)
theorem figure_lo (c : UInt8) (w : World) : Calls Try.prog 25 #[.int .i64 ((IntKind.i64.wrap (c.toNat : Int)).tmod 16)] w fun e w' => e = .returned (.int .u8 ((fig (c.toNat % 16)).toNat : Int)) ∧ w = w' := by
  have hc := c.toNat_lt
  have e1 : IntKind.i64.wrap (c.toNat : Int) = c.toNat := IntWalk.i64_in _ (by omega)
  have e2 : (c.toNat : Int).tmod 16 = ((c.toNat % 16 : Nat) : Int) := by rw [Int.tmod_eq_emod_of_nonneg (by omega)]; omega
  rw [e1, e2]
  exact figure_any _ w (by omega) (by omega)

theorem info_u8 : (Try.prog.info? 5).map (fun i => (i.zero, i.size, i.bytes)) = some (some (.int .u8 0), 1, 1) := by kernel_rfl

/-- At the head of a round: k bytes are written out. -/
def EncRel (w : World) (s : ByteArray) (u4 u5 : Value) (wr : World) : Prop :=
  ∃ k : Nat, k ≤ s.size ∧ u5 = .int .i64 k ∧ wr.ownsRow w.heap.size 5 1 u4 (2 * k) (bcells (hexOf (s.data.toList.take k))) ∧ Below w.heap.size w wr

theorem enc_step {w wr w1 : World} {s : ByteArray} {k gg cap : Nat} {v : Value} {o : Obj} (hlt : k < s.size) (hb : Below w.heap.size w wr) (hown : wr.ownsRow w.heap.size 5 1 v (2 * k) (bcells (hexOf (s.data.toList.take k))))
    (hown1 : w1.ownsRow w.heap.size 5 1 (.slice (some ⟨gg, 0, none⟩) (2 * k + 2) cap) (2 * k + 2) (bcells (hexOf (s.data.toList.take k)) ++ bcells (pair s[k]))) (hg : ((wr.alloc o).drew).grownBy w1 v.ownBlock) :
    EncRel w s (.slice (some ⟨gg, 0, none⟩) (2 * k + 2) cap) (.int .i64 ((k : Int) + 1)) w1 := by
  refine ⟨k + 1, hlt, by go_num, ?_, below_row hb hown (Nat.le_refl _) hb.size hg⟩
  rw [take_snoc s k hlt, hexOf_snoc, bcells_append]
  exact hown1

set_option maxRecDepth 100000 in
theorem encode_any (s : ByteArray) (w : World) (hs : s.size ≤ 20000) :
    Calls Try.prog 11 #[.string s] w fun e w' => e = .returned (.tuple #[.string ⟨(hexOf s.data.toList).toArray⟩, .bool true]) ∧ Below w.heap.size w w' := by
  obtain ⟨i0, hi0, hz0, hz1, hz2⟩ := info_parts info_u8
  have hown0 : (w.alloc (.cells #[] 5)).ownsRow w.heap.size 5 1 (.slice (some ⟨w.heap.size, 0, none⟩) 0 0) 0 [] := World.ownsRow_made w #[] 0 (Nat.le_refl _) (Nat.zero_le _) (by simp)
  have hb0 : Below w.heap.size w (w.alloc (.cells #[] 5)) := (Below.refl _ _).alloc (Nat.le_refl _) _
  have HO := Lib.hid hown0
  have HB := Lib.hid hb0
  clear hown0 hb0
  go_enter Try.func11, Try.ntmps11
  go_wp2
  go_loopw [4, 5] (fun u4 u5 wr => EncRel w s u4 u5 wr) (fun _ u5 _ => s.size - (intOf u5).toNat)
  case atStart => exact ⟨0, Nat.zero_le _, rfl, by simpa [hexOf, bcells] using HO.out, HB.out⟩
  case round =>
    obtain ⟨k, hk, rfl, hown, hb⟩ := hrel
    clear HO HB
    by_cases hlt : k < s.size
    · go_wp2
      have hk0 : (0 : Int) ≤ (k : Int) := Int.natCast_nonneg _
      have hk1 : (k : Int) < (s.size : Int) := by omega
      have hx0 : (0 : Int) ≤ (s[k].toNat : Int) := Int.natCast_nonneg _
      have hx1 : (s[k].toNat : Int) < 256 := by have := s[k].toNat_lt; omega
      have hb0 : (0 : Int) ≤ (s[k].toNat : Int) / 16 := by omega
      have hb00 : (0 : Int) ≤ (s[k].toNat : Int) % 16 := by omega
      have hb1 : (s[k].toNat : Int) / 16 < 16 := by have := s[k].toNat_lt; omega
      have hb2 : (s[k].toNat : Int) % 16 < 16 := by omega
      go_region_held3 (fun _ => True) (trivial)
        (first | (go_at_call 25; ((with_reducible refine (figure_hi s[k] _).mono ?_); rintro e w' ⟨rfl, rfl⟩)) | (go_at_call 25; ((with_reducible refine (figure_lo s[k] _).mono ?_); rintro e w' ⟨rfl, rfl⟩)) | (refine append_here (.tmp 16) (.tmp 29) 22 ?_ ?_; rfl; refine step_append_lies _ (by rfl) _ _ _ (by rfl) w.heap.size 5 i0 _ 1 1 Try.underlying22 hi0 hz0 hz1 hz2 rfl (by omega) _ (2 * k) (bcells (hexOf (s.data.toList.take k))) (by rfl) ((hown.alloc _).drew) ⟨wr.heap.size, 0, none⟩ 2 2 (bcells (pair s[k])) (by rfl) (by rfl) (news_eq rfl (heap_alloc_new wr _)) (oneCell _) (by omega) (by unfold maxLen; omega) (by omega) (by have := hb.size; simp; omega) (wr.heap.size + 1) (by simp) ?_; intro gg cap w1 hown1 hgrow hat hlt1; clear hat hlt1))
      all_goals
        go_wp2
        go_roundw
        case rel => exact enc_step hlt hb hown hown1 hgrow
        case measure => simp [intOf]; omega
    · obtain rfl : k = s.size := by omega
      have hcv := run_convert_own (P := Try.prog) wr 22 9 5 Try.underlying22 Try.underlying5 Try.underlying9 _ hown
      rw [List.take_of_length_le (by simp)] at hcv
      go_wp2
      go_ret2
      exact ⟨rfl, hb⟩
end Go.Proofs.Ytijpbjnghkkdeaa.hexS
