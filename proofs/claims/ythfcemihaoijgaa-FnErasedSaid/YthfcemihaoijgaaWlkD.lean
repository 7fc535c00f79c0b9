/- The draw of a maze, a cell and a walk from it. -/
import Derived.Test.YthfcemihaoijgaaWayM
import Derived.Test.YthfcemihaoijgaaDrwA
namespace Go.Proofs.Ythfcemihaoijgaa.walkD
open Go.ChangeShapes Go.WideShapes Go.ChangeAt Go.RowKit
open draw gridP gridC gridE bitP mazeP mazeQ mazeC mazeM mazeR mazeE intsP intA listK reachP reachM reachN reachD wayP
set_option linter.unusedVariables false

theorem grown_low {w X X' : World} {g B : Nat} (h : w.grownBy X (some g)) (hb : Below B X X') (hB : w.heap.size ≤ B) : w.grownBy X' (some g) :=
  ⟨hb.os.trans h.os, hb.tape.trans h.tape, hb.output.trans h.output, Nat.le_trans h.size hb.size, fun i hi hne => (hb.block i (Nat.lt_of_lt_of_le hi hB)).trans (h.block i hi hne)⟩
theorem mbox_grown {b g : Nat} {x y z : Int} {X X' : World} (h : MBox b x y z X) (hg : X.grownBy X' (some g)) (hne : b ≠ g) : MBox b x y z X' := by
  obtain ⟨⟨c0, c1, c2⟩, hl⟩ := h
  have hr : some b ≠ some g := fun e => hne (Option.some.inj e)
  exact ⟨⟨hg.cell c0 hr, hg.cell c1 hr, hg.cell c2 hr⟩, Nat.lt_of_lt_of_le hl hg.size⟩
/-- What stands while a walk is drawn: the cursor, the maze's box, the steps so far. -/
def WS (w : World) (g : Nat) (x y z : Int) (l : List Int) (v : Value) (X : World) : Prop :=
  Cur X g ∧ w.grownBy X (some g) ∧ MBox w.heap.size x y z X ∧ w.heap.size + 1 ≤ X.heap.size ∧ X.ownsRow (w.heap.size + 1) 3 1 v l.length (icells l)
theorem WS.below {w X X' : World} {g : Nat} {x y z : Int} {l : List Int} {v : Value} (h : WS w g x y z l v X) (hb : Below X.heap.size X X') : WS w g x y z l v X' := by
  obtain ⟨h1, h2, h3, h4, h5⟩ := h
  exact ⟨h1.kept hb h1.lt, grown_below h2 hb, h3.call hb, Nat.le_trans h4 hb.size, own_call h5 hb⟩
theorem WS.draw {w X X' : World} {g : Nat} {x y z : Int} {l : List Int} {v : Value} (h : WS w g x y z l v X) (hlt : g < w.heap.size) (hc' : Cur X' g) (hg' : X.grownBy X' (some g)) : WS w g x y z l v X' := by
  obtain ⟨h1, h2, h3, h4, h5⟩ := h
  refine ⟨hc', only_trans h2 hg', mbox_grown h3 hg' (by omega), Nat.le_trans h4 hg'.size, h5.kept hg' ?_⟩
  rcases h5.2 with ⟨rfl, _⟩ | ⟨q, cap, cur, rfl, hq, _⟩
  · exact .inl rfl
  · exact .inr fun e => by simp [Value.ownBlock] at e; omega
theorem WS.app {w X X' : World} {g gg cap : Nat} {x y z u : Int} {l : List Int} {v : Value} {o : Obj} (h : WS w g x y z l v X) (hlt : g < w.heap.size)
    (ho : X'.ownsRow (w.heap.size + 1) 3 1 (.slice (some ⟨gg, 0, none⟩) (l.length + 1) cap) (l.length + 1) (icells l ++ icells [u])) (hgr : (X.alloc o).grownBy X' v.ownBlock) :
    WS w g x y z (l ++ [u]) (.slice (some ⟨gg, 0, none⟩) (l.length + 1) cap) X' := by
  obtain ⟨h1, h2, h3, h4, h5⟩ := h
  have hb : Below (w.heap.size + 1) X X' := below_app (Below.refl _ _) (Nat.le_refl _) h4 h5 hgr
  refine ⟨h1.kept hb (by omega), grown_low h2 hb (Nat.le_succ _), mbox_keep h3 (Nat.lt_succ_self _) hb, Nat.le_trans h4 hb.size, ?_⟩
  rw [List.length_append, icells_append]; exact ho
theorem ws_start {w : World} {g : Nat} {x y z : Int} (hc : Cur w g) (T : TypeId) : WS w g x y z [] (.slice (some ⟨w.heap.size + 1, 0, none⟩) 0 0) ((w.alloc (.cells #[.int .i64 x, .int .i64 y, .int .i64 z] T)).alloc (.cells #[] 3)) := by
  refine ⟨(hc.alloc1 _).alloc1 _, only_alloc1 (only_alloc1 (World.grownBy.refl w _) _) _, (mbox_new x y z w T).call (below_box _ _), by simp, ?_⟩
  have := World.ownsRow_lit (base := w.heap.size + 1) (e := 3) (size := 1) (w.alloc (.cells #[.int .i64 x, .int .i64 y, .int .i64 z] T)) #[] 0 (by simp) (by decide) rfl
  simpa [icells] using this

/-- A walk is drawn with the cursor. -/
def DrawnWk (x y z a : Int) (g : Nat) (w : World) (e : Ending) (w' : World) : Prop := ∃ (l : List Int) (v : Value), (l.length ≤ 11 ∧ 0 ≤ wkZ x y z l a) ∧ e = .returned v ∧ w'.ownsRow w.heap.size 3 1 v l.length (icells l) ∧ Cur w' g ∧ w.grownBy w' (some g)
theorem drawnWk_mk {x y z a : Int} {g : Nat} {w X : World} {l : List Int} {v : Value} (h1 : l.length ≤ 11) (h2 : 0 ≤ wkZ x y z l a) (h : WS w g x y z l v X) : DrawnWk x y z a g w (.returned v) X :=
  ⟨l, v, ⟨h1, h2⟩, rfl, own_base h.2.2.2.2 (Nat.le_succ _), h.1, h.2.1⟩

set_option maxRecDepth 100000 in
theorem walk_any (g : Nat) (x y z a : Int) (w : World) (hc : Cur w g) (ha : 0 ≤ a) :
    Calls Try.prog 32 #[.pointer (some ⟨g, 0, none⟩), .agg #[.int .i64 x, .int .i64 y, .int .i64 z], .int .i64 a] w (DrawnWk x y z a g w) := by
  obtain ⟨i0, hi0, hz0, hz1, hz2⟩ := info_parts info_int
  have hlt := hc.lt
  have HK := @Lib.hid _ (fun X l v a1 a2 a3 => @drawnWk_mk x y z a g w X l v a1 a2 a3)
  have HS0 := Lib.hid (@ws_start w g x y z hc 27)
  have HWf := Lib.hid (fun c X => mazeS.waysFrom_any x y z c X)
  have HSt := Lib.hid (fun c d X => mazeS.step_any x y z c d X)
  clear hc
  go_enter Try.func32, Try.ntmps32
  go_wp2_with fail
  refine (below_any g 12 _ HS0.out.1 (by omega) (by omega)).mono ?_
  rintro e w1 ⟨n, hn, rfl, hc1, hg1⟩
  have hs1 := Lib.hid (HS0.out.draw hlt hc1 hg1)
  have Hn := Lib.hid hn
  clear hn hc1 hg1 HS0
  go_wp2_with fail
  go_loopw [2, 7, 9] (fun u2 u7 u9 wr => ∃ (k : Nat) (l : List Int), k ≤ n ∧ l.length ≤ k ∧ u9 = .int .i64 k ∧ u2 = .int .i64 (wkZ x y z l a) ∧ 0 ≤ wkZ x y z l a ∧ WS w g x y z l u7 wr) (fun _ _ u9 _ => n - (intOf u9).toNat)
  case atStart => exact ⟨0, [], Nat.zero_le _, Nat.le_refl _, rfl, rfl, ha, hs1.out⟩
  case round =>
    clear hs1
    obtain ⟨k, l, hk, hlk, rfl, rfl, hp, hws0⟩ := hrel
    have hws := Lib.hid hws0
    obtain ⟨A7, c7, rfl⟩ := own_form hws0.2.2.2.2
    obtain ⟨m0, m1, m2⟩ := hws0.2.2.1.1
    have hl11 : l.length ≤ 11 := by have := Hn.out; omega
    have hsz := hws0.2.2.2.1
    clear hws0
    by_cases hkn : k < n
    · have hk0 : (0 : Int) ≤ (k : Int) := Int.natCast_nonneg _
      have hk1 : (k : Int) < (n : Int) := by omega
      have hn12 : (n : Int) < 12 := Hn.out
      have HMem := Lib.hid (fun d hd => (wl_mem (w := x) (h := y) (o := z) (k := wkZ x y z l a) 4 d hd).2)
      have HSn := Lib.hid (fun d => @wkZ_snoc x y z l a d ha hp)
      have HP := Lib.hid hp
      have HWc := Lib.hid (fun X => HWf.out (wkZ x y z l a) X)
      have HSc := Lib.hid (fun d X => HSt.out (wkZ x y z l a) d X)
      have hl4 : (wlZ x y z (wkZ x y z l a)).length ≤ 4 := wlN_len _ _ _ _ 4
      change Hid (∀ d, d ∈ wlZ x y z (wkZ x y z l a) → _) at HMem
      clear hp
      generalize hcc : wkZ x y z l a = cc at *
      generalize wlZ x y z cc = L at *
      go_wp2_with fail
      refine (HWc.out _).mono ?_
      rintro e w2 ⟨v2, rfl, ho, hb⟩
      have hs2 := Lib.hid (hws.out.below hb)
      have hwo := Lib.hid ho
      obtain ⟨A2, c2, rfl⟩ := own_form ho
      clear ho hb hws m0 m1 m2
      by_cases hL : L.length = 0
      · have hL0 : ((L.length : Int) == 0) = true := by simp [hL]
        go_wp2_with fail
        go_ret
        exact HK.out _ _ _ hl11 (by rw [hcc]; exact HP.out) hs2.out
      · have hL0 : ((L.length : Int) == 0) = false := beq_eq_false_iff_ne.2 (by omega)
        obtain ⟨q, cq, hqe, hq1, hq2⟩ := own_some hwo.out (by omega)
        cases hqe
        go_wp2_with fail
        refine (below_any g (L.length : Int) _ hs2.out.1 (by omega) (by omega)).mono ?_
        rintro e w3 ⟨r, hr, rfl, hc3, hg3⟩
        have hs3 := Lib.hid (hs2.out.draw hlt hc3 hg3)
        have hwo3 := Lib.hid (hwo.out.kept hg3 (.inr fun e => by simp [Value.ownBlock] at e; omega))
        have hrl : r < L.length := by omega
        obtain ⟨d, hd⟩ : ∃ d, L[r]? = some d := ⟨L[r], List.getElem?_eq_getElem hrl⟩
        have hcd := own_cellI hwo3.out hd
        have hdm := HMem.out d (List.mem_of_getElem? hd)
        have HSd := Lib.hid (fun X => HSc.out d X)
        have HSn2 := Lib.hid (HSn.out d)
        have hr0 : (0 : Int) ≤ (r : Int) := Int.natCast_nonneg _
        have hsz3 := hs3.out.2.2.2.1
        clear hd hc3 hg3 hs2 hwo hq1 hq2 hL HSc HMem HSn
        generalize stZ x y z cc d = s at *
        go_wp2_with (at_builtin; refine wpList_append_lies _ rfl (.tmp 33) (.tmp 35) 28 rfl (w.heap.size + 1) 3 i0 _ 1 8 Try.underlying28 hi0 hz0 hz1 hz2 rfl (by omega) _ l.length _ rfl (hs3.out.2.2.2.2.alloc _) ⟨w3.heap.size, 0, none⟩ 1 1 (icells [d]) rfl rfl (news_eqI rfl (heap_alloc_new w3 _)) (oneCellI _) (by omega) (by unfold maxLen; omega) (by omega) (by simp; omega) (w3.heap.size + 1) (by simp) ?_; intro gg cap w4 hown' hgrow hat hlt2; clear hlt2 hat; have hs4 := Lib.hid (hs3.out.app hlt hown' hgrow); clear hown' hgrow; obtain ⟨m0, m1, m2⟩ := hs4.out.2.2.1.1)
        refine (HSd.out _).mono ?_
        rintro e w5 ⟨rfl, hb⟩
        have hs5 := Lib.hid (hs4.out.below hb)
        clear hb hs4 m0 m1 m2 hcd
        go_wp2_with fail
        go_roundw
        case rel => exact ⟨k + 1, l ++ [d], by omega, by simp; omega, by go_num, by rw [HSn2.out], by rw [HSn2.out]; exact hdm, by simpa using hs5.out⟩
        case measure => simp [intOf]; omega
    · obtain rfl : k = n := by omega
      go_wp2_with fail
      go_ret
      exact HK.out _ _ _ hl11 hp hws.out

/-- A maze, a cell in it and a walk from the cell are drawn from a code. -/
def WalkDrawn (w : World) (e : Ending) (w' : World) : Prop := ∃ (x y z a : Int) (l : List Int) (v : Value), (hasB x y z a = true ∧ l.length ≤ 11 ∧ 0 ≤ wkZ x y z l a) ∧ e = .returned (.tuple #[.agg #[.int .i64 x, .int .i64 y, .int .i64 z], .int .i64 a, v]) ∧ w'.ownsRow w.heap.size 3 1 v l.length (icells l) ∧ Below w.heap.size w w'
theorem walkDrawn_mk {w X Y : World} {x y z a : Int} {l : List Int} {v : Value} {B : Nat} (h : hasB x y z a = true ∧ l.length ≤ 11 ∧ 0 ≤ wkZ x y z l a) (hB : w.heap.size < B) (ho : X.ownsRow B 3 1 v l.length (icells l)) (hb : Below w.heap.size w X)
    (hY : Y = ((X.setCell ⟨w.heap.size, 0, none⟩ (.int .i64 x)).setCell ⟨w.heap.size, 1, none⟩ (.int .i64 y)).setCell ⟨w.heap.size, 2, none⟩ (.int .i64 z)) : WalkDrawn w (.returned (.tuple #[.agg #[.int .i64 x, .int .i64 y, .int .i64 z], .int .i64 a, v])) Y := by
  subst hY
  exact ⟨x, y, z, a, l, v, h, rfl, own_base (own_set (own_set (own_set ho (p := ⟨w.heap.size, 0, none⟩) hB _) (p := ⟨w.heap.size, 1, none⟩) hB _) (p := ⟨w.heap.size, 2, none⟩) hB _) (Nat.le_of_lt hB), ((hb.setCell (Nat.le_refl _) _).setCell (Nat.le_refl _) _).setCell (Nat.le_refl _) _⟩

theorem drawWalk_any (A : Option Addr) (n c : Nat) (w : World) (hn : n ≤ maxLen) (hb : BytesIn w w.heap.size A n) :
    Calls Try.prog 9 #[.slice A n c] w (WalkDrawn w) := by
  have HK := @Lib.hid _ (fun X Y x y z a l v B h1 h2 h3 h4 h5 => @walkDrawn_mk w X Y x y z a l v B h1 h2 h3 h4 h5)
  have HB := Lib.hid ((Below.refl w.heap.size w).alloc (Nat.le_refl _) (.cells #[.int .i64 0, .int .i64 0, .int .i64 0] 27))
  have HY := Lib.hid ((hb.keep (w' := w.alloc (.cells #[.int .i64 0, .int .i64 0, .int .i64 0] 27)) fun p hp => HB.out.cell hp).more (B' := w.heap.size + 1) (by omega))
  clear hb
  go_enter Try.func9, Try.ntmps9
  go_wp2_with fail
  refine (new_any A n c _ hn (by simpa using HY.out)).mono ?_
  rintro e w1 ⟨rfl, hc1, hb1, hs1⟩
  have HR1 := Lib.hid (Row3.call (row3_new 0 0 0 w _) hb1)
  have HB1 := Lib.hid (HB.out.trans (hb1.mono (by simp)))
  have hz : w1.heap.size = w.heap.size + 2 := by simp at hs1; omega
  have hz1 : w.heap.size + 2 ≤ w1.heap.size := by omega
  clear hs1 hb1 hz HB HY
  go_wp2_with fail
  refine (maze_any _ _ (by simpa using hc1)).mono ?_
  rintro e w2 ⟨x, y, z, hv, rfl, hc2, hg2⟩
  have HR2 := Lib.hid (row3_grown HR1.out hg2 (by omega))
  have HB2 := Lib.hid (HB1.out.grown hg2 (by omega) (fun k hk => by cases hk; omega))
  have hz2 := Nat.le_trans hz1 hg2.size
  have HR3 := Lib.hid (HR2.out.call (below_box w2 (.cells #[.int .i64 x, .int .i64 y, .int .i64 z] 27)))
  have HB3 := Lib.hid (HB2.out.alloc (by omega) (.cells #[.int .i64 x, .int .i64 y, .int .i64 z] 27))
  have hc3 := Lib.hid (hc2.alloc1 (.cells #[.int .i64 x, .int .i64 y, .int .i64 z] 27))
  have hm3 := Lib.hid (mbox_new x y z w2 27)
  have HV := Lib.hid hv
  have HC := Lib.hid (fun X => gridS.countCells_yes x y X hv.1.1 hv.1.2.1 hv.1.2.2.1 hv.1.2.2.2)
  obtain ⟨n1, n2, n3⟩ := nn2 hv.1
  rw [n1] at HC
  have HN := Lib.hid n1
  clear hg2 hc1 hc2 hv HR1 HB1 HR2 HB2 n1 hz1
  generalize cN x y = N at *
  go_wp2_with fail
  generalize w2.alloc (.cells #[.int .i64 x, .int .i64 y, .int .i64 z] 27) = w3 at *
  generalize hM : w2.heap.size = M at *
  obtain ⟨m0, m1, m2⟩ := hm3.out.1
  go_wp2_with fail
  refine (HC.out _).mono ?_
  rintro e w4 ⟨rfl, hb⟩
  have HR4 := Lib.hid (HR3.out.call hb)
  have HB4 := Lib.hid (below_call HB3.out hb)
  have hc4 := Lib.hid (hc3.out.kept hb hc3.out.lt)
  have hm4 := Lib.hid (hm3.out.call hb)
  clear hb HR3 HB3 hc3 hm3 m0 m1 m2 HC
  go_wp2_with fail
  refine (below_any _ (N : Int) _ hc4.out (by omega) (by omega)).mono ?_
  rintro e w5 ⟨a, ha, rfl, hc5', hg5⟩
  have HR5 := Lib.hid (row3_grown HR4.out hg5 (by omega))
  have HB5 := Lib.hid (HB4.out.grown hg5 HB4.out.size (fun k hk => by cases hk; omega))
  have hm5 := Lib.hid (mbox_grown hm4.out hg5 (by omega))
  have hc5 := Lib.hid hc5'
  have HA := Lib.hid ha
  obtain ⟨m0, m1, m2⟩ := hm5.out.1
  have hl5 := hc5'.lt
  clear hg5 hc5' ha HR4 HB4 hc4 hm4
  go_wp2_with fail
  refine (walk_any _ x y z a _ hc5.out (by omega)).mono ?_
  rintro e w6 ⟨l, v, hlw, rfl, ho, hc6, hg6⟩
  have HR6 := Lib.hid (row3_grown HR5.out hg6 (by omega))
  have HB6 := Lib.hid (HB5.out.grown hg6 HB5.out.size (fun k hk => by cases hk; omega))
  have hm6 := Lib.hid (mbox_grown hm5.out hg6 (by omega))
  have HO := Lib.hid ho
  have HL := Lib.hid hlw
  obtain ⟨A6, c6, rfl⟩ := own_form ho
  clear m0 m1 m2 hg6 hc6 ho hlw HR5 HB5 hm5
  obtain ⟨m0, m1, m2⟩ := hm6.out.1
  obtain ⟨⟨c0, c1, c2⟩, f0, f1, f2⟩ := row3_cells HR6.out
  have hne : (w.heap.size = M) = False := by simp; omega
  go_wp2_with fail
  refine ret_set3 c0 c1 c2 fun Y e0 e1 e2 hY => ?_
  exact bodyPost_ret (v := .tuple #[.agg #[.int .i64 x, .int .i64 y, .int .i64 z], .int .i64 (a : Int), .slice A6 l.length c6]) (by simp [results, Try.results9, go_sem, e0, e1, e2]) rfl (HK.out _ _ _ _ _ _ _ _ _ ⟨decide_eq_true ⟨HV.out, by omega, by have := HA.out; have := HN.out; omega⟩, HL.out.1, HL.out.2⟩ (by omega) HO.out HB6.out hY)
end Go.Proofs.Ythfcemihaoijgaa.walkD
