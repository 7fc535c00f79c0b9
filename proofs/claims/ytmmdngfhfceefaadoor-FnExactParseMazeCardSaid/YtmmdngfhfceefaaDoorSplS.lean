/- The model's SplitFields answers the fields of its argument, if it is a valid line. -/
import Derived.Test.YtmmdngfhfceefaaDoorSplP
import Derived.Lib.Strings
import Derived.WalkKit
import Derived.ProofKit
import Derived.OpenShut
import Derived.Below
import Derived.LoopTactic
import Derived.OwnWalk
import Derived.Deep.RegionHeld3
import Derived.Deep.AppendLies
import Derived.Lib.Hide
import Derived.Outline
import Derived.Laws.BytesArg
import Derived.Laws.BitsLemmas
import Derived.Laws.MakeOwn
import Derived.Laws.IdiomStrings
namespace Go.Proofs.YtmmdngfhfceefaaDoor.splS
open Go.ChangeShapes Go.WideShapes Go.ChangeAt Go.RowKit
open hexP splP
set_option linter.unusedVariables false

theorem info_str : (Tryd.prog.info? 9).map (fun i => (i.zero, i.size, i.bytes)) = some (some (.string ⟨#[]⟩), 1, 16) := by kernel_rfl

theorem str_cell {x : ByteArray} {cur : List UInt8} (h : x = ⟨cur.toArray⟩) : #[Value.string x].toList = scells [cur] := by subst h; rfl

/-- At the head of a round: i bytes are read and valid, a field may be open; or the line is at its end. -/
def SplRel (w : World) (s : ByteArray) (u4 u5 u6 : Value) (wr : World) : Prop :=
  ∃ (i b : Nat) (fs : List (List UInt8)), u6 = .int .i64 i ∧ u5 = .int .i64 b ∧ wr.ownsRow w.heap.size 9 1 u4 fs.length (scells fs) ∧ Below w.heap.size w wr ∧ (∀ j (h : j < s.size), j < i → okB s[j]) ∧
    ((i ≤ s.size ∧ ∃ cur : List UInt8, b + cur.length = i ∧ scan (s.data.toList.take i) = (fs, cur) ∧ cur = (s.data.toList.take i).drop b) ∨ (i = s.size + 1 ∧ fs = split s.data.toList))

theorem ok_succ {s : ByteArray} {i : Nat} (hlt : i < s.size) (hok : ∀ j (h : j < s.size), j < i → okB s[j]) (h : okB s[i]) : ∀ j (h : j < s.size), j < i + 1 → okB s[j] := fun j hj hji => by
  rcases Nat.lt_or_ge j i with h' | h'
  · exact hok j hj h'
  · have : j = i := by omega
    subst this; exact h

theorem rel_byte {w wr : World} {s : ByteArray} {i b : Nat} {fs : List (List UInt8)} {cur : List UInt8} {v : Value} (hlt : i < s.size) (hok : ∀ j (h : j < s.size), j < i → okB s[j]) (hbk : okB s[i]) (hsp : ¬ s[i].toNat = 32)
    (hbi : b + cur.length = i) (hsc : scan (s.data.toList.take i) = (fs, cur)) (hcur : cur = (s.data.toList.take i).drop b) (hown : wr.ownsRow w.heap.size 9 1 v fs.length (scells fs)) (hb : Below w.heap.size w wr) :
    SplRel w s v (.int .i64 b) (.int .i64 ((i : Int) + 1)) wr := by
  refine ⟨i + 1, b, fs, by go_num, rfl, hown, hb, ok_succ hlt hok hbk, .inl ⟨hlt, cur ++ [s[i]], by simp; omega, ?_, ?_⟩⟩
  · rw [take_snoc s i hlt, scan_snoc, hsc]; unfold stp; rw [if_neg hsp]
  · rw [take_snoc s i hlt, List.drop_append_of_le_length (by simp; omega), ← hcur]

theorem rel_field {w wr w1 : World} {s : ByteArray} {i b gg cap : Nat} {fs : List (List UInt8)} {cur : List UInt8} {v : Value} {o : Obj} (hlt : i < s.size) (hok : ∀ j (h : j < s.size), j < i → okB s[j]) (hsp : s[i].toNat = 32)
    (hbi : b + cur.length = i) (hsc : scan (s.data.toList.take i) = (fs, cur)) (hne : b < i) (hown : wr.ownsRow w.heap.size 9 1 v fs.length (scells fs)) (hb : Below w.heap.size w wr)
    (hown' : w1.ownsRow w.heap.size 9 1 (.slice (some ⟨gg, 0, none⟩) (fs.length + 1) cap) (fs.length + 1) (scells fs ++ scells [cur])) (hg : (wr.alloc o).grownBy w1 v.ownBlock) :
    SplRel w s (.slice (some ⟨gg, 0, none⟩) (fs.length + 1) cap) (.int .i64 ((i : Int) + 1)) (.int .i64 ((i : Int) + 1)) w1 := by
  refine ⟨i + 1, i + 1, fs ++ [cur], by go_num, by go_num, ?_, ?_, ok_succ hlt hok (by unfold okB; omega), .inl ⟨hlt, [], by simp, ?_, by simp⟩⟩
  · rw [scells_append, List.length_append]; exact hown'
  · exact (hb.alloc hb.size o).grown hg (by have := hb.size; simp; omega) (fun b hk => (hown.lt b hk).1)
  · rw [take_snoc s i hlt, scan_snoc, hsc]; unfold stp; rw [if_pos hsp, if_neg (by intro e; simp only at e; rw [e] at hbi; simp at hbi; omega)]

theorem rel_none {w wr : World} {s : ByteArray} {i b : Nat} {fs : List (List UInt8)} {cur : List UInt8} {v : Value} (hlt : i < s.size) (hok : ∀ j (h : j < s.size), j < i → okB s[j]) (hsp : s[i].toNat = 32)
    (hbi : b + cur.length = i) (hsc : scan (s.data.toList.take i) = (fs, cur)) (hne : ¬ b < i) (hown : wr.ownsRow w.heap.size 9 1 v fs.length (scells fs)) (hb : Below w.heap.size w wr) :
    SplRel w s v (.int .i64 ((i : Int) + 1)) (.int .i64 ((i : Int) + 1)) wr := by
  have hz : cur = [] := List.eq_nil_of_length_eq_zero (by omega)
  subst hz
  refine ⟨i + 1, i + 1, fs, by go_num, by go_num, hown, hb, ok_succ hlt hok (by unfold okB; omega), .inl ⟨hlt, [], by simp, ?_, by simp⟩⟩
  rw [take_snoc s i hlt, scan_snoc, hsc]; unfold stp; rw [if_pos hsp, if_pos rfl]

theorem all_take (s : ByteArray) : s.data.toList.take s.size = s.data.toList := List.take_of_length_le (by simp)

theorem rel_end {w wr w1 : World} {s : ByteArray} {b gg cap : Nat} {fs : List (List UInt8)} {cur : List UInt8} {v : Value} {o : Obj} (hok : ∀ j (h : j < s.size), j < s.size → okB s[j])
    (hbi : b + cur.length = s.size) (hsc : scan (s.data.toList.take s.size) = (fs, cur)) (hne : b < s.size) (hown : wr.ownsRow w.heap.size 9 1 v fs.length (scells fs)) (hb : Below w.heap.size w wr)
    (hown' : w1.ownsRow w.heap.size 9 1 (.slice (some ⟨gg, 0, none⟩) (fs.length + 1) cap) (fs.length + 1) (scells fs ++ scells [cur])) (hg : (wr.alloc o).grownBy w1 v.ownBlock) :
    SplRel w s (.slice (some ⟨gg, 0, none⟩) (fs.length + 1) cap) (.int .i64 ((s.size : Int) + 1)) (.int .i64 ((s.size : Int) + 1)) w1 := by
  refine ⟨s.size + 1, s.size + 1, fs ++ [cur], by go_num, by go_num, ?_, ?_, fun j hj _ => hok j hj hj, .inr ⟨rfl, ?_⟩⟩
  · rw [scells_append, List.length_append]; exact hown'
  · exact (hb.alloc hb.size o).grown hg (by have := hb.size; simp; omega) (fun b hk => (hown.lt b hk).1)
  · rw [all_take] at hsc
    unfold split close; rw [hsc, if_neg (by intro e; simp only at e; rw [e] at hbi; simp at hbi; omega)]
theorem rel_end0 {w wr : World} {s : ByteArray} {b : Nat} {fs : List (List UInt8)} {cur : List UInt8} {v : Value} (hok : ∀ j (h : j < s.size), j < s.size → okB s[j])
    (hbi : b + cur.length = s.size) (hsc : scan (s.data.toList.take s.size) = (fs, cur)) (hne : ¬ b < s.size) (hown : wr.ownsRow w.heap.size 9 1 v fs.length (scells fs)) (hb : Below w.heap.size w wr) :
    SplRel w s v (.int .i64 ((s.size : Int) + 1)) (.int .i64 ((s.size : Int) + 1)) wr := by
  have hz : cur = [] := List.eq_nil_of_length_eq_zero (by omega)
  subst hz
  refine ⟨s.size + 1, s.size + 1, fs, by go_num, by go_num, hown, hb, fun j hj _ => hok j hj hj, .inr ⟨rfl, ?_⟩⟩
  rw [all_take] at hsc
  unfold split close; rw [hsc, if_pos rfl]

theorem cut_eq {s : ByteArray} {i b : Nat} {cur : List UInt8} (hi : i ≤ s.size) (hbi : b + cur.length = i) (hcur : cur = (s.data.toList.take i).drop b) : s.extract b i = ⟨cur.toArray⟩ := by
  apply WideShapes.bytes_inj
  rw [Lib.extract_data, hcur]
  simp [List.drop_take]

theorem split_len (s : ByteArray) : (split s.data.toList).length ≤ s.size := by
  have h := scan_len s.data.toList
  have e : s.data.toList.length = s.size := by simp
  rw [e] at h
  unfold split close
  by_cases hz : (scan s.data.toList).2 = []
  · rw [if_pos hz]; omega
  · rw [if_neg hz]
    have := List.length_pos_iff.2 hz
    simp; omega

set_option maxRecDepth 100000 in
theorem split_any (s : ByteArray) (w : World) (hs : s.size ≤ maxLen) : Calls Tryd.prog 36 #[.string s] w (SplPost s w) := by
  unfold maxLen at hs
  obtain ⟨j0, hj0, hy0, hy1, hy2⟩ := info_parts info_str
  have HO := Lib.hid (show (w.alloc (.cells #[] 9)).ownsRow w.heap.size 9 1 (.slice (some ⟨w.heap.size, 0, none⟩) 0 0) 0 [] from World.ownsRow_made w #[] 0 (Nat.le_refl _) (Nat.zero_le _) (by simp))
  have HB := Lib.hid (show Below w.heap.size w (w.alloc (.cells #[] 9)) from (Below.refl _ _).alloc (Nat.le_refl _) _)
  by_cases hl : 600 < s.size
  · have HP := Lib.hid (spl_no (w := w) (s := s) (fun h => by have := h.1; omega) HO.out HB.out)
    go_enter Tryd.func36, Tryd.ntmps36
    go_wp2_with fail
    go_ret2
    exact HP.out
  · go_enter Tryd.func36, Tryd.ntmps36
    go_wp2_with fail
    go_loopw [4, 5, 6] (fun u4 u5 u6 wr => SplRel w s u4 u5 u6 wr) (fun _ _ u6 _ => s.size + 1 - (intOf u6).toNat)
    case atStart => exact ⟨0, 0, [], rfl, rfl, HO.out, HB.out, fun j _ hj => absurd hj (by omega), .inl ⟨Nat.zero_le _, [], rfl, rfl, by simp⟩⟩
    case round =>
      obtain ⟨i, b, fs, rfl, rfl, hown, hb, hok, hst⟩ := hrel
      obtain ⟨A4, c4, rfl⟩ := own_form hown
      have HOK := Lib.hid hok
      clear hok HO HB
      rcases hst with ⟨hi, cur, hbi, hsc, hcur⟩ | ⟨hi, hfs⟩
      · have hlen : fs.length + cur.length ≤ i := by
          have := scan_len (s.data.toList.take i)
          rw [hsc] at this
          simp at this
          omega
        have HSC := Lib.hid hsc
        have HBI := Lib.hid hbi
        have HCU := Lib.hid hcur
        have HE := Lib.hid (cut_eq hi hbi hcur)
        have hbi1 : (b : Int) ≤ (i : Int) := by omega
        have hi0 : (0 : Int) ≤ (b : Int) := Int.natCast_nonneg _
        have hi1 : (i : Int) ≤ (s.size : Int) := by omega
        clear hsc hbi hcur
        by_cases hlt : i < s.size
        · have hk0 : (0 : Int) ≤ (i : Int) := Int.natCast_nonneg _
          have hk1 : (i : Int) < (s.size : Int) := by omega
          by_cases hbad : s[i].toNat < 32 ∨ 126 < s[i].toNat
          · have HNO := Lib.hid (show ¬ OK s from fun h => by have := h.2.1 i hlt; unfold okB at this; omega)
            have HO2 := Lib.hid (show (wr.alloc (.cells #[] 9)).ownsRow w.heap.size 9 1 (.slice (some ⟨wr.heap.size, 0, none⟩) 0 0) 0 [] from World.ownsRow_made wr #[] 0 hb.size (Nat.zero_le _) (by simp))
            have HB2 := Lib.hid (show Below w.heap.size w (wr.alloc (.cells #[] 9)) from hb.alloc hb.size _)
            by_cases hlow : s[i].toNat < 32
            · have h1 : (s[i].toNat : Int) < 32 := by omega
              clear hbad hlow
              go_wp2_with fail
              go_ret2
              exact spl_no HNO.out HO2.out HB2.out
            · have h1 : (32 : Int) ≤ (s[i].toNat : Int) := by omega
              have h2 : (126 : Int) < (s[i].toNat : Int) := by omega
              clear hbad hlow
              go_wp2_with fail
              go_ret2
              exact spl_no HNO.out HO2.out HB2.out
          · have h1 : (32 : Int) ≤ (s[i].toNat : Int) := by omega
            have h2 : (s[i].toNat : Int) ≤ 126 := by omega
            by_cases hsp : s[i].toNat = 32
            · have h3 : ((s[i].toNat : Int) == 32) = true := by rw [beq_iff_eq]; omega
              have h4 : ((s[i].toNat : Int) != 32) = false := by rw [bne_eq_false_iff_eq]; omega
              have HSP := Lib.hid hsp
              clear hsp hbad
              by_cases hne : b < i
              · go_wp2_with (at_builtin; refine wpList_append_lies _ rfl (.tmp 48) (.tmp 53) 29 rfl w.heap.size 9 j0 _ 1 16 Tryd.underlying29 hj0 hy0 hy1 hy2 rfl (by omega) _ fs.length _ rfl (hown.alloc _) ⟨wr.heap.size, 0, none⟩ 1 1 (scells [cur]) rfl rfl (news_eq (str_cell HE.out) (heap_alloc_new wr _)) (oneCellS _) (by omega) (by unfold maxLen; omega) (by omega) (by have := hb.size; simp; omega) (wr.heap.size + 1) (by simp) ?_; intro gg cap w1 hown' hgrow hat hlt2; clear hat hlt2)
                go_roundw
                case rel => exact rel_field hlt HOK.out HSP.out HBI.out HSC.out hne hown hb hown' hgrow
                case measure => simp [intOf]; omega
              · go_wp2_with fail
                go_roundw
                case rel => exact rel_none hlt HOK.out HSP.out HBI.out HSC.out hne hown hb
                case measure => simp [intOf]; omega
            · have h3 : ((s[i].toNat : Int) == 32) = false := by rw [beq_eq_false_iff_ne]; omega
              have h4 : ((s[i].toNat : Int) != 32) = true := by rw [bne_iff_ne]; omega
              have HSP := Lib.hid hsp
              have HBK := Lib.hid (show okB s[i] by unfold okB; omega)
              clear hsp hbad
              go_wp2_with fail
              go_roundw
              case rel => exact rel_byte hlt HOK.out HBK.out HSP.out HBI.out HSC.out HCU.out hown hb
              case measure => simp [intOf]; omega
        · obtain rfl : i = s.size := by omega
          by_cases hne : b < s.size
          · go_wp2_with (at_builtin; refine wpList_append_lies _ rfl (.tmp 48) (.tmp 53) 29 rfl w.heap.size 9 j0 _ 1 16 Tryd.underlying29 hj0 hy0 hy1 hy2 rfl (by omega) _ fs.length _ rfl (hown.alloc _) ⟨wr.heap.size, 0, none⟩ 1 1 (scells [cur]) rfl rfl (news_eq (str_cell HE.out) (heap_alloc_new wr _)) (oneCellS _) (by omega) (by unfold maxLen; omega) (by omega) (by have := hb.size; simp; omega) (wr.heap.size + 1) (by simp) ?_; intro gg cap w1 hown' hgrow hat hlt2; clear hat hlt2)
            go_roundw
            case rel => exact rel_end HOK.out HBI.out HSC.out hne hown hb hown' hgrow
            case measure => simp [intOf]
          · go_wp2_with fail
            go_roundw
            case rel => exact rel_end0 HOK.out HBI.out HSC.out hne hown hb
            case measure => simp [intOf]
      · subst hi
        have hall : ∀ j (h : j < s.size), okB s[j] := fun j h => HOK.out j h (by omega)
        have hsl := split_len s
        rw [← hfs] at hsl
        by_cases hmany : 24 < fs.length
        · have HNO := Lib.hid (show ¬ OK s from fun h => by have := h.2.2; rw [← hfs] at this; omega)
          have HO2 := Lib.hid (show (wr.alloc (.cells #[] 9)).ownsRow w.heap.size 9 1 (.slice (some ⟨wr.heap.size, 0, none⟩) 0 0) 0 [] from World.ownsRow_made wr #[] 0 hb.size (Nat.zero_le _) (by simp))
          have HB2 := Lib.hid (show Below w.heap.size w (wr.alloc (.cells #[] 9)) from hb.alloc hb.size _)
          clear hall hfs
          go_wp2_with fail
          go_ret2
          exact spl_no HNO.out HO2.out HB2.out
        · have HYES := Lib.hid (show OK s from ⟨by omega, hall, by rw [← hfs]; omega⟩)
          have HS := Lib.hid hfs
          clear hall hfs
          go_wp2_with fail
          go_ret2
          exact spl_yes HYES.out (congrArg List.length HS.out) (by rw [← HS.out]; exact hown) hb
end Go.Proofs.YtmmdngfhfceefaaDoor.splS
