/- The contract of the program's list of the cells that a walker comes to: a walk, sorted and freed of its doubles. -/
import Derived.Test.YtkknnikhpembiaaHandI3
import Derived.Test.YtkknnikhpembiaaHandS
import Derived.Test.YtkknnikhpembiaaShelf
import Derived.Sort.OwnSortedInts
import Derived.Lib.OwnBridge
namespace Go.Proofs.Ytkknnikhpembiaa.handI
open Go.ChangeShapes Go.WideShapes Go.ChangeAt Go.RowKit
open draw gridP gridC gridE bitP mazeP mazeC mazeM mazeR mazeI intsP reachP reachM reachN reachD intA listK forest handP handQ listW handM
set_option linter.unusedVariables false

theorem cells_succ {l : List (Int × Int)} {k : Nat} {s : Int × Int} (h : l[k]? = some s) : (l.take (k + 1)).map (fun s => s.1) = (l.take k).map (fun s => s.1) ++ [s.1] := by
  rw [List.take_add_one, h]; simp
theorem cv_mem (x y z c f : Int) (v : Int) : v ∈ (hwI x y z c f 200).map (fun s => s.1) ↔ ∃ k : Nat, v = k ∧ k < caN x y ∧ cvB x y z c f k = true := by
  unfold cvB
  constructor
  · intro h
    obtain ⟨s, hs, rfl⟩ := List.mem_map.1 h
    cases hw : waB x y z c f with
    | false => rw [hw_no (fun h => by rw [hw] at h; cases h.1)] at hs; cases hs
    | true =>
      have hs' := hs
      rw [hw_yes hw (by omega) (by omega)] at hs'
      obtain ⟨j, -, rfl⟩ := List.mem_map.1 hs'
      obtain ⟨hwj, -, -⟩ := hk_step hw j
      obtain ⟨hv, c', f', e1, e2, h1, h2⟩ := wk_form hwj
      refine ⟨(hkN x y z c f j).1, rfl, ?_, ?_⟩
      · unfold caN; rw [if_pos (show OkZ x y from hv.1)]; omega
      · rw [hr_any, List.any_eq_true]
        exact ⟨_, hs, by simp [iwP]⟩
  · rintro ⟨k, rfl, -, h⟩
    rw [hr_any, List.any_eq_true] at h
    obtain ⟨s, hs, he⟩ := h
    exact List.mem_map.2 ⟨s, hs, by simpa using he⟩
theorem cv_sort (x y z c f : Int) : Lib.compact (((hwI x y z c f 200).map fun s => s.1).mergeSort fun a b => decide (a ≤ b)) = cvL x y z c f :=
  handS.sort_cells (cv_mem x y z c f)

theorem sorted_own {W X X' : World} {b g n cap q : Nat} {os : Array Obj} {cs ts : List Int} (hts : ts.length = cs.length) (hbW : W.heap.size ≤ b) (h : Below W.heap.size W X)
    (ho : X.ownsRow b 3 1 (.slice (some ⟨g, 0, none⟩) n cap) n (icells cs)) (hX : X' = Sort.grow (Sort.putRow (Value.int .i64) (Sort.ahead X q) g 0 ts.toArray) os) :
    Below W.heap.size W X' ∧ X'.ownsRow b 3 1 (.slice (some ⟨g, 0, none⟩) n cap) n (icells ts) := by
  subst hX
  have hn : n = cs.length := by have := ho.1; simpa [icells] using this.symm
  subst hn
  rcases ho.2 with ⟨h0, _⟩ | ⟨g', cap', cur, hv, hg, hb, h1, h2, h3, h4⟩
  · cases h0
  · cases hv
    exact ⟨h.grown (grownBy_sortedI _) h.size (fun j hj => by cases hj; omega), ownsRow_sortedI hts hg hb h1 h2 h3⟩
theorem cut_own {W X X' : World} {b g n cap q : Nat} {ts us : List Int} (hbW : W.heap.size ≤ b) (h : Below W.heap.size W X)
    (ho : X.ownsRow b 3 1 (.slice (some ⟨g, 0, none⟩) n cap) n (icells ts)) (hk : us.length ≤ n) (hX : X' = Sort.putRow (Value.int .i64) (Sort.ahead X q) g 0 (us ++ List.replicate (n - us.length) 0).toArray) :
    Below W.heap.size W X' ∧ X'.ownsRow b 3 1 (.slice (some ⟨g, 0, none⟩) us.length cap) us.length (icells us) := by
  subst hX
  have hg : b ≤ g := by
    rcases ho.2 with ⟨h0, _⟩ | ⟨g', cap', cur, hv, hg, _⟩
    · cases h0
    · cases hv; exact hg
  have := Lib.ownsRow_putRow (q := q) (k := us.length) (ys := us ++ List.replicate (n - us.length) 0) ho (by simp; omega) hk
  rw [List.take_left] at this
  exact ⟨Lib.below_putRow h (by omega), this⟩

theorem WlT.keep {A : Option Addr} {l : List (Int × Int)} {X X' : World} {B : Nat} (h : WlT A l X) (hB : ∀ g, A = some ⟨g, 0, none⟩ → g < B) (hb : Below B X X') : WlT A l X' := fun i s hs => by
  obtain ⟨g, e, hg, hc, hc2⟩ := h i s hs
  exact ⟨g, e, Nat.lt_of_lt_of_le hg hb.size, (hb.cell (p := ⟨g, i * 2, none⟩) (hB g e)).trans hc, (hb.cell (p := ⟨g, i * 2 + 1, none⟩) (hB g e)).trans hc2⟩

set_option maxRecDepth 100000 in
set_option maxHeartbeats 2000000 in
theorem cellsVisited_any (x y z c f : Int) (W : World) :
    Calls Try.prog 17 #[.agg #[.int .i64 x, .int .i64 y, .int .i64 z], .agg #[.int .i64 c, .int .i64 f]] W (Ints (cvL x y z c f) W) := by
  obtain ⟨i0, hi0, hz0, hz1, hz2⟩ := info_parts info_int
  have HH := Lib.hid (fun X => handWalk_any x y z c f 200 X)
  have HW := Lib.hid (fun T1 T2 => box2_new x y z c f W T1 T2)
  have HK := @Lib.hid _ (fun w' v n base => @ints_mk (cvL x y z c f) W w' v n base)
  have hl := hw_len x y z c f 200
  have HS := Lib.hid (cv_sort x y z c f)
  generalize cvL x y z c f = L at *
  generalize hwI x y z c f 200 = l at *
  go_enter Try.func17, Try.ntmps17
  go_wp2_with fail
  obtain ⟨hx0, hr0, hb0⟩ := HW.out 27 29
  have hb0 := Lib.hid hb0
  obtain ⟨⟨m0, m1, m2⟩, -⟩ := hx0
  obtain ⟨⟨r0, r1⟩, -⟩ := row2_cells hr0
  clear HW hr0
  go_wp2_with fail
  refine (HH.out _).mono ?_
  rintro e w1 ⟨v, rfl, ho, hb⟩
  have hb1 := Lib.hid (below_call hb0.out hb)
  obtain ⟨A1, c1, rfl⟩ := intsP.own_form ho
  have hwl1 := Lib.hid (wlt_own rfl ho)
  have HB0 : Hid (∀ (i : Nat) s, l[i]? = some s → ∃ g, A1 = some ⟨g, 0, none⟩ ∧ g < w1.heap.size) := Lib.hid fun i s hs => by
    obtain ⟨g, e, hg, -⟩ := hwl1.out i s hs
    exact ⟨g, e, hg⟩
  clear hb ho hb0 m0 m1 m2 r0 r1
  go_wp2_with fail
  go_loopw [5, 12] (fun u5 u12 wr => ∃ k : Nat, k ≤ l.length ∧ u12 = .int .i64 k ∧ OL W w1.heap.size ((l.take k).map fun s => s.1) u5 wr ∧ WlT A1 l wr) (fun _ u12 _ => l.length - (intOf u12).toNat)
  case atStart => exact ⟨0, Nat.zero_le _, rfl, ol_nil hb1.out hb1.out.size (Nat.le_refl _), hwl1.out⟩
  case round =>
    clear hb1 hwl1
    obtain ⟨k, hk, rfl, hol0, hwl0⟩ := hrel
    have hol1 := Lib.hid hol0
    have hwl1 := Lib.hid hwl0
    obtain ⟨A5, c5, rfl⟩ := hol0.form
    clear hol0 hwl0
    have hck : ((l.take k).map fun s => s.1).length = k := by rw [List.length_map, List.length_take]; omega
    by_cases hkl : k < l.length
    · obtain ⟨s, hs⟩ : ∃ s, l[k]? = some s := ⟨l[k], List.getElem?_eq_getElem hkl⟩
      obtain ⟨gb, rfl, hg, hc, hc2⟩ := hwl1.out k s hs
      have hk0 : (0 : Int) ≤ (k : Int) := Int.natCast_nonneg _
      have hk1 : (k : Int) < (l.length : Int) := by omega
      have hd : decide ((k : Int) < (l.length : Int)) = true := decide_eq_true hk1
      have hS2 := Lib.hid (cells_succ hs)
      have hgB : Hid (∀ g, (some ⟨gb, 0, none⟩ : Option Addr) = some ⟨g, 0, none⟩ → g < w1.heap.size) := Lib.hid fun g e => by
        obtain ⟨g2, e2, hg2⟩ := HB0.out k s hs
        have := e.symm.trans e2
        injection this with t
        injection t with t
        omega
      obtain ⟨s1, s2⟩ := s
      simp only at hc hc2 hS2
      have hX := below_box wr (.cells #[.int .i64 s1, .int .i64 s2] 29)
      have hol2 := Lib.hid (hol1.out.call hX)
      have hwl2 := Lib.hid (hwl1.out.call hX)
      have HNew : Hid (∀ o : Obj, ((wr.alloc (.cells #[.int .i64 s1, .int .i64 s2] 29)).alloc o).heap[wr.heap.size + 1]? = some o) := Lib.hid fun o => by
        have := heap_alloc_new (wr.alloc (.cells #[.int .i64 s1, .int .i64 s2] 29)) o
        rw [World.size_alloc] at this
        exact this
      have hbz := hol1.out.2.2.1
      clear hs hX HB0
      generalize hl0 : ((l.take k).map fun s => s.1) = lo at *
      generalize hl1 : ((l.take (k + 1)).map fun s => s.1) = lp at *
      go_wp2_with (at_builtin; refine wpList_append_lies _ rfl (.tmp 16) (.tmp 19) 37 rfl (w1.heap.size) 3 i0 _ 1 8 Try.underlying37 hi0 hz0 hz1 hz2 rfl (by omega) _ lo.length _ rfl (hol2.out.2.2.2.alloc _) ⟨wr.heap.size + 1, 0, none⟩ 1 1 (icells [s1]) rfl rfl (news_eqI rfl (HNew.out _)) (oneCellI _) (by omega) (by unfold maxLen; omega) (by omega) (by simp; omega) (wr.heap.size + 1 + 1) (by simp) ?_; intro gg cap w3 hown' hgrow hat hlt2; clear hlt2; have HAt := Lib.hid hat; clear hat)
      have hn2 := hol2.out.app hown' hgrow
      rw [← hS2.out, hck] at hn2
      have hwl3 : Hid (WlT (some ⟨gb, 0, none⟩) l w3) := Lib.hid (hwl2.out.keep hgB.out hn2.2)
      go_roundw
      case rel => exact ⟨k + 1, by omega, by go_num, by rw [hl1]; exact hn2.1, hwl3.out⟩
      case measure => simp [intOf]; omega
    · obtain rfl : k = l.length := by omega
      have hd : decide ((l.length : Int) < (l.length : Int)) = false := by simp
      rw [List.take_length] at hol1 hck ⊢
      generalize (l.map fun s => s.1) = cs at *
      clear hwl1 hk
      generalize l.length = n at *
      subst hck
      by_cases hn : cs = []
      · subst hn
        have HN := Lib.hid (fun p cap w => Try.slices_Sort_int_none p cap w)
        have HM := Lib.hid (fun p cap w => Try.slices_Compact_int_empty p cap w)
        have hL : L = [] := by rw [← HS.out]; simp [Lib.compact, Lib.compactUpTo]
        subst hL
        go_wp2_with fail
        refine (HN.out _ _ _).mono ?_
        rintro e w2 ⟨rfl, rfl⟩
        go_wp2_with fail
        refine (HM.out _ _ _).mono ?_
        rintro e w3 ⟨rfl, rfl⟩
        go_wp2_with fail
        go_ret
        exact HK.out _ _ _ _ rfl hol1.out.2.2.2 hol1.out.2.1 hol1.out.1
      · have hn1 : 0 < cs.length := List.length_pos_iff.2 hn
        obtain ⟨g, cap, hv, hbg, hgl, hncap, hcm, -, hH⟩ := Lib.holds_of_ownsRow (zs := cs) hol1.out.2.2.2 (by intro h; injection h with _ h; omega)
        injection hv with hv1 _ hv2
        subst hv1; subst hv2
        have hsort := Lib.hid (Try.slices_Sort_int g 0 c5 cs wr hH hgl (by omega))
        have hts : (cs.mergeSort fun a b => decide (a ≤ b)).length = cs.length := List.length_mergeSort _
        clear hH hn
        generalize (cs.mergeSort fun a b => decide (a ≤ b)) = ts at *
        go_wp2_with fail
        refine hsort.out.mono ?_
        rintro e w2 ⟨rfl, q, os, hw2⟩
        obtain ⟨hb2, ho2⟩ := sorted_own hts hol1.out.2.1 hol1.out.1 hol1.out.2.2.2 hw2
        obtain ⟨g2, cap2, hv2, -, -, -, -, -, hH2⟩ := Lib.holds_of_ownsRow (zs := ts) ho2 (by intro h; injection h with _ h; omega)
        injection hv2 with hv3 _ hv4
        injection hv3 with hv3
        injection hv3 with hv3
        subst hv3; subst hv4
        have hcut := Try.slices_Compact_int g 0 c5 ts w2 hH2 (by omega) (by omega)
        have hcl := Lib.compact_length_le ts
        rw [HS.out] at hcut hcl
        rw [hts] at hcut hcl
        have hcut2 := Lib.hid hcut
        have hb2' := Lib.hid hb2
        have ho2' := Lib.hid ho2
        clear hcut hb2 ho2 hH2 hw2 hsort
        go_wp2_with fail
        refine hcut2.out.mono ?_
        rintro e w3 ⟨rfl, q3, hw3⟩
        obtain ⟨hb3, ho3⟩ := cut_own hol1.out.2.1 hb2'.out ho2'.out hcl hw3
        have hb3' := Lib.hid hb3
        have ho3' := Lib.hid ho3
        clear hb3 ho3 hw3
        go_wp2_with fail
        go_ret
        exact HK.out _ _ _ _ rfl ho3'.out hol1.out.2.1 hb3'.out
end Go.Proofs.Ytkknnikhpembiaa.handI
