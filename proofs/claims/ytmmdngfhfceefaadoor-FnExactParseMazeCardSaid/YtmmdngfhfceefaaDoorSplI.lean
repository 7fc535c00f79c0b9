/- The program's SplitFields answers the fields of its argument, if it is a valid line. -/
import Derived.Test.YtmmdngfhfceefaaDoorSplP
import Derived.WalkKit
import Derived.ProofKit
import Derived.OpenShut
import Derived.Below
import Derived.LoopTactic
import Derived.OwnWalk
import Derived.Deep.RegionHeld3
import Derived.Deep.AppendLies
import Derived.Lib.Hide
import Derived.Outline
import Derived.Laws.BytesArg
import Derived.Laws.BitsLemmas
import Derived.Laws.MakeOwn
import Derived.Laws.IdiomStrings
import Derived.WalkMore
namespace Go.Proofs.YtmmdngfhfceefaaDoor.splI
open Go.ChangeShapes Go.WideShapes Go.ChangeAt Go.RowKit
open hexP splP
set_option linter.unusedVariables false

theorem info_u8 : (Tryd.prog.info? 5).map (fun i => (i.zero, i.size, i.bytes)) = some (some (.int .u8 0), 1, 1) := by kernel_rfl
theorem info_str : (Tryd.prog.info? 9).map (fun i => (i.zero, i.size, i.bytes)) = some (some (.string ⟨#[]⟩), 1, 16) := by kernel_rfl

/-- At the head of a round: k bytes are read, all of them valid. -/
def SplRel (w : World) (s : ByteArray) (u4 u5 u6 u14 : Value) (wr : World) : Prop :=
  ∃ (k : Nat) (fs : List (List UInt8)) (cur : List UInt8), k ≤ s.size ∧ u14 = .int .i64 k ∧ u6 = .bool true ∧ scan (s.data.toList.take k) = (fs, cur) ∧ (∀ j (h : j < s.size), j < k → okB s[j]) ∧
    wr.ownsRow w.heap.size 9 1 u4 fs.length (scells fs) ∧ wr.ownsRow w.heap.size 5 1 u5 cur.length (bcells cur) ∧ Below w.heap.size w wr

theorem rel_byte {w wr w1 : World} {s : ByteArray} {k gg cap : Nat} {fs : List (List UInt8)} {cur : List UInt8} {v4 v5 : Value} {o : Obj} (hlt : k < s.size) (hsc : scan (s.data.toList.take k) = (fs, cur)) (hok : ∀ j (h : j < s.size), j < k → okB s[j])
    (hb1 : okB s[k]) (hsp : ¬ s[k].toNat = 32) (hb : Below w.heap.size w wr) (hown4 : wr.ownsRow w.heap.size 9 1 v4 fs.length (scells fs)) (hown5 : wr.ownsRow w.heap.size 5 1 v5 cur.length (bcells cur))
    (hown5' : w1.ownsRow w.heap.size 5 1 (.slice (some ⟨gg, 0, none⟩) (cur.length + 1) cap) (cur.length + 1) (bcells cur ++ bcells [s[k]])) (hg : (wr.alloc o).grownBy w1 v5.ownBlock) :
    SplRel w s v4 (.slice (some ⟨gg, 0, none⟩) (cur.length + 1) cap) (.bool true) (.int .i64 ((k : Int) + 1)) w1 := by
  refine ⟨k + 1, fs, cur ++ [s[k]], hlt, by go_num, rfl, ?_, fun j hj hjk => ?_, ?_, ?_, ?_⟩
  · rw [take_snoc s k hlt, scan_snoc, hsc]; unfold stp; rw [if_neg hsp]
  · rcases Nat.lt_or_ge j k with h | h
    · exact hok j hj h
    · have : j = k := by omega
      subst this; exact hb1
  · exact (hown4.alloc o).kept hg (own_ne (hown4.alloc o) (hown5.alloc o) (by decide))
  · rw [bcells_append, List.length_append]; exact hown5'
  · exact (hb.alloc hb.size o).grown hg (by have := hb.size; simp; omega) (fun b hk => (hown5.lt b hk).1)

theorem rel_field {w wr w1 : World} {s : ByteArray} {k gg cap : Nat} {fs : List (List UInt8)} {cur : List UInt8} {v4 : Value} {o : Obj} (hlt : k < s.size) (hsc : scan (s.data.toList.take k) = (fs, cur)) (hok : ∀ j (h : j < s.size), j < k → okB s[j])
    (hsp : s[k].toNat = 32) (hne : 0 < cur.length) (hb : Below w.heap.size w wr) (hown4 : wr.ownsRow w.heap.size 9 1 v4 fs.length (scells fs))
    (hown4' : w1.ownsRow w.heap.size 9 1 (.slice (some ⟨gg, 0, none⟩) (fs.length + 1) cap) (fs.length + 1) (scells fs ++ scells [cur])) (hg : (wr.alloc o).grownBy w1 v4.ownBlock) :
    SplRel w s (.slice (some ⟨gg, 0, none⟩) (fs.length + 1) cap) (.slice none 0 0) (.bool true) (.int .i64 ((k : Int) + 1)) w1 := by
  refine ⟨k + 1, fs ++ [cur], [], hlt, by go_num, rfl, ?_, fun j hj hjk => ?_, ?_, World.ownsRow_nil w1 w.heap.size 5 1, ?_⟩
  · rw [take_snoc s k hlt, scan_snoc, hsc]; unfold stp; rw [if_pos hsp, if_neg (by intro e; simp only at e; rw [e] at hne; simp at hne)]
  · rcases Nat.lt_or_ge j k with h | h
    · exact hok j hj h
    · have : j = k := by omega
      subst this; unfold okB; omega
  · rw [scells_append, List.length_append]; exact hown4'
  · exact (hb.alloc hb.size o).grown hg (by have := hb.size; simp; omega) (fun b hk => (hown4.lt b hk).1)

theorem rel_none {w wr : World} {s : ByteArray} {k c5 : Nat} {A5 : Option Addr} {fs : List (List UInt8)} {v4 : Value} (hlt : k < s.size) (hsc : scan (s.data.toList.take k) = (fs, [])) (hok : ∀ j (h : j < s.size), j < k → okB s[j])
    (hsp : s[k].toNat = 32) (hb : Below w.heap.size w wr) (hown4 : wr.ownsRow w.heap.size 9 1 v4 fs.length (scells fs)) (hown5 : wr.ownsRow w.heap.size 5 1 (.slice A5 0 c5) 0 (bcells [])) :
    SplRel w s v4 (.slice A5 0 c5) (.bool true) (.int .i64 ((k : Int) + 1)) wr := by
  refine ⟨k + 1, fs, [], hlt, by go_num, rfl, ?_, fun j hj hjk => ?_, hown4, hown5, hb⟩
  · rw [take_snoc s k hlt, scan_snoc, hsc]; unfold stp; rw [if_pos hsp, if_pos rfl]
  · rcases Nat.lt_or_ge j k with h | h
    · exact hok j hj h
    · have : j = k := by omega
      subst this; unfold okB; omega

/-- The fields are complete: the last one is empty, or is added. -/
theorem split_of {l : List UInt8} {fs : List (List UInt8)} (h : scan l = (fs, [])) : split l = fs := by unfold split close; rw [h]; simp
theorem split_of' {l : List UInt8} {fs : List (List UInt8)} {cur : List UInt8} (h : scan l = (fs, cur)) (hne : 0 < cur.length) : split l = fs ++ [cur] := by
  unfold split close; rw [h]; rw [if_neg (by intro e; simp only at e; rw [e] at hne; simp at hne)]
theorem below_app {w wr w1 : World} {fs : List (List UInt8)} {v4 : Value} {o : Obj} (hb : Below w.heap.size w wr) (hown4 : wr.ownsRow w.heap.size 9 1 v4 fs.length (scells fs)) (hg : (wr.alloc o).grownBy w1 v4.ownBlock) : Below w.heap.size w w1 :=
  (hb.alloc hb.size o).grown hg (by have := hb.size; simp; omega) (fun b hk => (hown4.lt b hk).1)
theorem none_row (w w1 : World) : w1.ownsRow w.heap.size 9 1 (.slice none 0 0) 0 [] := World.ownsRow_nil w1 _ _ _

set_option maxRecDepth 100000 in
theorem split_any (s : ByteArray) (w : World) (hs : s.size ≤ maxLen) : Calls Tryd.prog 28 #[.string s] w (SplPost s w) := by
  unfold maxLen at hs
  obtain ⟨i0, hi0, hz0, hz1, hz2⟩ := info_parts info_u8
  obtain ⟨j0, hj0, hy0, hy1, hy2⟩ := info_parts info_str
  have HN0 := Lib.hid (World.ownsRow_nil w w.heap.size 9 1)
  by_cases hl : 600 < s.size
  · have HP := Lib.hid (spl_no (w := w) (s := s) (fun h => by have := h.1; omega) HN0.out (Below.refl _ _))
    go_enter Tryd.func28, Tryd.ntmps28
    go_wp2_with fail
    go_step3
    go_wp2_with fail
    try rw [Exit.noGoto_ret]
    go_ret2
    exact HP.out
  · have HO5 := Lib.hid (World.ownsRow_nil w w.heap.size 5 1)
    have HB0 := Lib.hid (Below.refl w.heap.size w)
    go_enter Tryd.func28, Tryd.ntmps28
    go_wp2_with fail
    go_step3
    go_wp2_with fail
    go_step3
    go_wp2_with fail
    go_loopw [4, 5, 6, 14] (fun u4 u5 u6 u14 wr => SplRel w s u4 u5 u6 u14 wr) (fun _ _ _ u14 _ => s.size - (intOf u14).toNat)
    case atStart => exact ⟨0, [], [], Nat.zero_le _, rfl, rfl, rfl, fun j _ hj => absurd hj (by omega), HN0.out, HO5.out, HB0.out⟩
    case round =>
      obtain ⟨k, fs, cur, hk, rfl, rfl, hsc, hok, hown4, hown5, hb⟩ := hrel
      obtain ⟨A4, c4, rfl⟩ := own_form hown4
      obtain ⟨A5, c5, rfl⟩ := own_form hown5
      have hlen : fs.length + cur.length ≤ k := by
        have := scan_len (s.data.toList.take k)
        rw [hsc] at this
        simp at this
        omega
      have HSC := Lib.hid hsc
      have HOK := Lib.hid hok
      clear hsc hok HO5 HB0
      by_cases hlt : k < s.size
      · have hk0 : (0 : Int) ≤ (k : Int) := Int.natCast_nonneg _
        have hk1 : (k : Int) < (s.size : Int) := by omega
        by_cases hbad : s[k].toNat < 32 ∨ 126 < s[k].toNat
        · have hno : ¬ OK s := fun h => by have := h.2.1 k hlt; unfold okB at this; omega
          have HNO := Lib.hid hno
          clear hno
          by_cases hne : 0 < cur.length
          · have hcv := run_convert_own (P := Tryd.prog) wr 22 9 5 Tryd.underlying22 Tryd.underlying5 Tryd.underlying9 _ hown5
            by_cases hlow : s[k].toNat < 32
            · have h1 : (s[k].toNat : Int) < 32 := by omega
              clear hbad hlow
              go_wp2_with (at_builtin; refine wpList_append_lies _ rfl (.tmp 47) (.tmp 50) 29 rfl w.heap.size 9 j0 _ 1 16 Tryd.underlying29 hj0 hy0 hy1 hy2 rfl (by omega) _ fs.length _ rfl (hown4.alloc _) ⟨wr.heap.size, 0, none⟩ 1 1 (scells [cur]) rfl rfl (news_eq rfl (heap_alloc_new wr _)) (oneCellS _) (by omega) (by unfold maxLen; omega) (by omega) (by have := hb.size; simp; omega) (wr.heap.size + 1) (by simp) ?_; intro gg cap w1 hown4' hgrow hat hlt2; clear hat hlt2)
              try rw [Exit.noGoto_ret]
              go_ret2
              exact spl_no HNO.out (none_row w w1) (below_app hb hown4 hgrow)
            · have h1 : (32 : Int) ≤ (s[k].toNat : Int) := by omega
              have h2 : (126 : Int) < (s[k].toNat : Int) := by omega
              clear hbad hlow
              go_wp2_with (at_builtin; refine wpList_append_lies _ rfl (.tmp 47) (.tmp 50) 29 rfl w.heap.size 9 j0 _ 1 16 Tryd.underlying29 hj0 hy0 hy1 hy2 rfl (by omega) _ fs.length _ rfl (hown4.alloc _) ⟨wr.heap.size, 0, none⟩ 1 1 (scells [cur]) rfl rfl (news_eq rfl (heap_alloc_new wr _)) (oneCellS _) (by omega) (by unfold maxLen; omega) (by omega) (by have := hb.size; simp; omega) (wr.heap.size + 1) (by simp) ?_; intro gg cap w1 hown4' hgrow hat hlt2; clear hat hlt2)
              try rw [Exit.noGoto_ret]
              go_ret2
              exact spl_no HNO.out (none_row w w1) (below_app hb hown4 hgrow)
          · have hz : cur.length = 0 := by omega
            have hz' : ¬ (0 : Int) < (cur.length : Int) := by omega
            clear hne hz
            by_cases hlow : s[k].toNat < 32
            · have h1 : (s[k].toNat : Int) < 32 := by omega
              clear hbad hlow
              go_wp2_with fail
              try rw [Exit.noGoto_ret]
              go_ret2
              exact spl_no HNO.out (none_row w wr) hb
            · have h1 : (32 : Int) ≤ (s[k].toNat : Int) := by omega
              have h2 : (126 : Int) < (s[k].toNat : Int) := by omega
              clear hbad hlow
              go_wp2_with fail
              try rw [Exit.noGoto_ret]
              go_ret2
              exact spl_no HNO.out (none_row w wr) hb
        · by_cases hsp : s[k].toNat = 32
          · have h1 : (32 : Int) ≤ (s[k].toNat : Int) := by omega
            have h2 : (s[k].toNat : Int) ≤ 126 := by omega
            have h3 : ((s[k].toNat : Int) == 32) = true := by rw [beq_iff_eq]; omega
            have h4 : ((s[k].toNat : Int) != 32) = false := by rw [bne_eq_false_iff_eq]; omega
            have HSP := Lib.hid hsp
            clear hsp hbad
            by_cases hne : 0 < cur.length
            · have hcv := run_convert_own (P := Tryd.prog) wr 22 9 5 Tryd.underlying22 Tryd.underlying5 Tryd.underlying9 _ hown5
              go_wp2_with (at_builtin; refine wpList_append_lies _ rfl (.tmp 38) (.tmp 41) 29 rfl w.heap.size 9 j0 _ 1 16 Tryd.underlying29 hj0 hy0 hy1 hy2 rfl (by omega) _ fs.length _ rfl (hown4.alloc _) ⟨wr.heap.size, 0, none⟩ 1 1 (scells [cur]) rfl rfl (news_eq rfl (heap_alloc_new wr _)) (oneCellS _) (by omega) (by unfold maxLen; omega) (by omega) (by have := hb.size; simp; omega) (wr.heap.size + 1) (by simp) ?_; intro gg cap w1 hown4' hgrow hat hlt2; clear hat hlt2)
              go_roundw
              case rel => exact rel_field hlt HSC.out HOK.out HSP.out hne hb hown4 hown4' hgrow
              case measure => simp [intOf]; omega
            · have hz : cur = [] := List.eq_nil_of_length_eq_zero (by omega)
              subst hz
              go_wp2_with fail
              go_roundw
              case rel => exact rel_none hlt HSC.out HOK.out HSP.out hb hown4 hown5
              case measure => simp [intOf]; omega
          · have h1 : (32 : Int) ≤ (s[k].toNat : Int) := by omega
            have h2 : (s[k].toNat : Int) ≤ 126 := by omega
            have h3 : ((s[k].toNat : Int) == 32) = false := by rw [beq_eq_false_iff_ne]; omega
            have h4 : ((s[k].toNat : Int) != 32) = true := by rw [bne_iff_ne]; omega
            have HSP := Lib.hid hsp
            have HBK := Lib.hid (show okB s[k] by unfold okB; omega)
            clear hsp hbad
            go_wp2_with (at_builtin; refine wpList_append_lies _ rfl (.tmp 30) (.tmp 32) 22 rfl w.heap.size 5 i0 _ 1 1 Tryd.underlying22 hi0 hz0 hz1 hz2 rfl (by omega) _ cur.length _ rfl (hown5.alloc _) ⟨wr.heap.size, 0, none⟩ 1 1 (bcells [s[k]]) rfl rfl (news_eq rfl (heap_alloc_new wr _)) (oneCell _) (by omega) (by unfold maxLen; omega) (by omega) (by have := hb.size; simp; omega) (wr.heap.size + 1) (by simp) ?_; intro gg cap w1 hown5' hgrow hat hlt2; clear hat hlt2)
            go_roundw
            case rel => exact rel_byte hlt HSC.out HOK.out HBK.out HSP.out hb hown4 hown5 hown5' hgrow
            case measure => simp [intOf]; omega
      · have hk2 : k = s.size := by omega
        subst hk2
        have hall : ∀ j (h : j < s.size), okB s[j] := fun j h => HOK.out j h h
        have hsc : scan s.data.toList = (fs, cur) := by
          have := HSC.out
          rwa [List.take_of_length_le (by simp)] at this
        by_cases hne : 0 < cur.length
        · have hsp := split_of' hsc hne
          have hln : (split s.data.toList).length = fs.length + 1 := by rw [hsp]; simp
          have hcv := run_convert_own (P := Tryd.prog) wr 22 9 5 Tryd.underlying22 Tryd.underlying5 Tryd.underlying9 _ hown5
          by_cases hmany : 24 < fs.length + 1
          · have HNO := Lib.hid (show ¬ OK s from fun h => by have := h.2.2; omega)
            clear hall hsc hsp hln
            go_wp2_with (at_builtin; refine wpList_append_lies _ rfl (.tmp 47) (.tmp 50) 29 rfl w.heap.size 9 j0 _ 1 16 Tryd.underlying29 hj0 hy0 hy1 hy2 rfl (by omega) _ fs.length _ rfl (hown4.alloc _) ⟨wr.heap.size, 0, none⟩ 1 1 (scells [cur]) rfl rfl (news_eq rfl (heap_alloc_new wr _)) (oneCellS _) (by omega) (by unfold maxLen; omega) (by omega) (by have := hb.size; simp; omega) (wr.heap.size + 1) (by simp) ?_; intro gg cap w1 hown4' hgrow hat hlt2; clear hat hlt2)
            try rw [Exit.noGoto_ret]
            go_ret2
            exact spl_no HNO.out (none_row w w1) (below_app hb hown4 hgrow)
          · have HYES := Lib.hid (show OK s from ⟨by omega, hall, by omega⟩)
            have HL := Lib.hid hln
            have HS := Lib.hid (show scells (split s.data.toList) = scells fs ++ scells [cur] by rw [hsp, scells_append])
            clear hall hsc hsp hln
            go_wp2_with (at_builtin; refine wpList_append_lies _ rfl (.tmp 47) (.tmp 50) 29 rfl w.heap.size 9 j0 _ 1 16 Tryd.underlying29 hj0 hy0 hy1 hy2 rfl (by omega) _ fs.length _ rfl (hown4.alloc _) ⟨wr.heap.size, 0, none⟩ 1 1 (scells [cur]) rfl rfl (news_eq rfl (heap_alloc_new wr _)) (oneCellS _) (by omega) (by unfold maxLen; omega) (by omega) (by have := hb.size; simp; omega) (wr.heap.size + 1) (by simp) ?_; intro gg cap w1 hown4' hgrow hat hlt2; clear hat hlt2)
            try rw [Exit.noGoto_ret]
            go_ret2
            exact spl_yes HYES.out HL.out.symm (by rw [HS.out]; exact hown4') (below_app hb hown4 hgrow)
        · have hz : cur = [] := List.eq_nil_of_length_eq_zero (by omega)
          subst hz
          have hsp := split_of hsc
          by_cases hmany : 24 < fs.length
          · have HNO := Lib.hid (show ¬ OK s from fun h => by have := h.2.2; rw [hsp] at this; omega)
            clear hall hsc hsp
            go_wp2_with fail
            try rw [Exit.noGoto_ret]
            go_ret2
            exact spl_no HNO.out (none_row w wr) hb
          · have HYES := Lib.hid (show OK s from ⟨by omega, hall, by rw [hsp]; omega⟩)
            have HS := Lib.hid hsp
            clear hall hsc hsp
            go_wp2_with fail
            try rw [Exit.noGoto_ret]
            go_ret2
            exact spl_yes HYES.out (by rw [HS.out]) (by rw [HS.out]; exact hown4) hb
end Go.Proofs.YtmmdngfhfceefaaDoor.splI
