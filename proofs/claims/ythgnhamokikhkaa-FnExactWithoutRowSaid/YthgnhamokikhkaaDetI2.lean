/- The contracts of the library's copying of a row, and of the program's copying of rows. -/
import Derived.Test.YthgnhamokikhkaaRowsL
import Derived.Lib.SliceRun
namespace Go.Proofs.Ythgnhamokikhkaa.detI
open Go.ChangeShapes Go.WideShapes Go.ChangeAt Go.RowKit
open draw gridC mazeC intsP reachD intA intK listK rowsP rowsL
set_option linter.unusedVariables false

set_option maxRecDepth 100000 in
set_option maxHeartbeats 2000000 in
theorem clone_any (A : Option Addr) (n c : Nat) (l : List Int) (W : World) (hn : l.length = n) (hm : n ≤ 1048576) (hi : IntsIn W W.heap.size A l) :
    Calls Try.prog 135 #[.slice A n c] W (Ints l W) := by
  obtain ⟨i0, hi0, hz0, hz1, hz2⟩ := info_parts info_int
  have HK := @Lib.hid _ (fun w' v n base => @ints_mk l W w' v n base)
  have q : ∀ (w : World) (a : Option Addr) (n c n' c' : Nat), (binOp .eql 34 (.slice a n c) (.slice none n' c')).run Try.prog w = .ok (.bool a.isNone) w := fun w a n c n' c' => Lib.run_eql_slice_nil w _ _ a n c n' c' Try.underlying34
  cases A with
  | none =>
    have hl : l = [] := by
      rcases List.eq_nil_or_concat l with h | ⟨_, _, h⟩
      · exact h
      · exact absurd (hi (by rw [h]; simp)) (by rintro ⟨_, h, _⟩; cases h)
    subst hl
    have HR := Lib.hid (Below.refl W.heap.size W)
    have HO : Hid (W.ownsRow W.heap.size 3 1 (.slice none 0 0) 0 (icells [])) := World.ownsRow_nil W W.heap.size 3 1
    clear hi hn
    go_enter Try.func135, Try.ntmps135
    go_wp2_with fail
    go_ret
    exact HK.out _ _ _ _ rfl HO.out (Nat.le_refl _) HR.out
  | some ad =>
    have HI : Hid (∀ j u, (icells l)[j]? = some u → (W.alloc (.cells #[] 3)).cell? (ad.add j) = some u) := Lib.hid fun j u hu => by
      have hne : l ≠ [] := by
        rintro rfl; simp [icells] at hu
      obtain ⟨a', e, hb, hc⟩ := hi hne
      cases e
      unfold icells at hu
      rw [List.getElem?_map] at hu
      cases hl : l[j]? with
      | none => rw [hl] at hu; cases hu
      | some z =>
        rw [hl] at hu
        exact Lib.cell?_alloc_some _ ((hc j z hl).trans (by rw [← Option.some.inj hu]))
    have HO : Hid ((W.alloc (.cells #[] 3)).ownsRow W.heap.size 3 1 (.slice (some ⟨W.heap.size, 0, none⟩) 0 0) 0 []) := Lib.hid (World.ownsRow_made W #[] 0 (Nat.le_refl _) (Nat.zero_le _) rfl)
    have HB := Lib.hid (below_box W (.cells #[] 3))
    have Hn := Lib.hid hn
    clear hi hn
    go_enter Try.func135, Try.ntmps135
    go_wp2_with (at_builtin; refine wpList_append_own _ rfl _ _ 34 rfl W.heap.size 3 i0 _ 1 8 Try.underlying34 hi0 hz0 hz1 hz2 rfl (by decide) _ 0 [] rfl HO.out ad n c (icells l) rfl (by rw [icells_length, Hn.out]; simp) HI.out (oneCellI _) (by unfold maxLen; omega) (by omega) (by simp) ?_; intro v' w1 hown hgrow hnil; clear hnil)
    have hb1 := Lib.hid (HB.out.grown hgrow (by simp) (fun k hk => by cases hk; exact Nat.le_refl _))
    have ho1 : Hid (w1.ownsRow W.heap.size 3 1 v' n (icells l)) := Lib.hid (by simpa using hown)
    obtain ⟨A1, c1, rfl⟩ := intsP.own_form ho1.out
    clear hown hgrow
    go_wp2_with fail
    go_ret
    exact HK.out _ _ _ _ Hn.out.symm ho1.out (Nat.le_refl _) hb1.out

set_option maxRecDepth 100000 in
theorem copyRows_any (A : Option Addr) (n c : Nat) (ls : List (List Int)) (W : World) (hn : n = ls.length) (hm : n ≤ 1048576) (hl : ∀ l ∈ ls, l.length ≤ 1048576) (hi : MxIn W W.heap.size A ls) :
    Calls Try.prog 92 #[.slice A n c] W (Mtx ls W) := by
  obtain ⟨i0, hi0, hz0, hz1, hz2⟩ := info_parts info_row
  have HK := @Lib.hid _ (fun w' v b t => @mtx_mk ls W w' v b t)
  have hmk := run_make (P := Try.prog) W 38 34 i0 (.slice none 0 0) Try.underlying38 hi0 hz0 .i64 .i64 (n : Int) (n : Int) (by omega) (by omega) (by rw [hz2]; omega) (by omega)
  rw [hz1] at hmk
  simp only [Int.toNat_natCast, Nat.mul_one] at hmk
  have HR : Hid (RT W n ls 0 (W.alloc (.cells (madeCells (Value.slice none 0 0).cells n) 34))) := by
    refine ⟨below_box W _, ?_⟩
    have := mx_made (X := W) (Nat.le_refl _) n (by unfold maxLen; omega)
    simpa using this
  have HI := Lib.hid hi
  have HL := Lib.hid hl
  have Hn := Lib.hid hn
  clear hi hn hl
  go_enter Try.func92, Try.ntmps92
  go_wp2_with fail
  clear hmk
  go_loopw [11] (fun u4 wr => ∃ k : Nat, k ≤ n ∧ u4 = .int .i64 k ∧ RT W n ls k wr) (fun u4 _ => n - (intOf u4).toNat)
  case atStart => exact ⟨0, Nat.zero_le _, rfl, HR.out⟩
  case round =>
    obtain ⟨k, hk, rfl, hr0⟩ := hrel
    have hrt := Lib.hid hr0
    clear hr0 HR
    have hk0 : (0 : Int) ≤ (k : Int) := Int.natCast_nonneg _
    by_cases hkn : k < n
    · have hk1 : (k : Int) < (n : Int) := by omega
      have hd : decide ((k : Int) < (n : Int)) = true := decide_eq_true hk1
      obtain ⟨l, hl⟩ : ∃ l, ls[k]? = some l := ⟨ls[k]'(by have := Hn.out; omega), List.getElem?_eq_getElem (by have := Hn.out; omega)⟩
      have hll := HL.out l (List.mem_of_getElem? hl)
      obtain ⟨ad, rfl, hab, A1, c1, ea, ra⟩ := mx_cell (HI.out.below hrt.out.1) hl
      have HT := Lib.hid (clone_any A1 l.length c1 l wr rfl hll (ra.more hrt.out.1.size))
      have HS := Lib.hid (fun X r hr hb => @rt_step W wr X n k ls l r hrt.out Hn.out hl hr hb)
      have HC := Lib.hid (fun X (hb : Below wr.heap.size wr X) => rt_cell (hrt.out.call hb) Hn.out hkn)
      clear hl ra
      go_wp2_with fail
      refine HT.out.mono ?_
      rintro e w1 ⟨r, rfl, hr, hb⟩
      obtain ⟨⟨old, hcell⟩, hfz⟩ := HC.out w1 hb
      have hnx := Lib.hid (HS.out w1 r hr hb)
      obtain ⟨A2, c2, rfl⟩ := intsP.own_form hr
      clear hr hb HS HC HT hrt
      go_wp2_with fail
      go_roundw
      case rel => exact ⟨k + 1, by omega, by go_num, hnx.out⟩
      case measure => simp [intOf]; omega
    · obtain rfl : k = n := by omega
      have hd : decide ((k : Int) < (k : Int)) = false := by simp
      have hx := hrt.out.2
      rw [Nat.sub_self, List.replicate_zero, List.append_nil, List.take_of_length_le (by have := Hn.out; omega)] at hx
      have HX := Lib.hid hx
      clear hx
      go_wp2_with fail
      go_ret
      exact HK.out _ _ _ _ HX.out (Nat.le_refl _) (Nat.le_refl _) hrt.out.1
end Go.Proofs.Ythgnhamokikhkaa.detI
