/- The draw of a matrix. -/
import Derived.Test.YthgnhamokikhkaaMatR
import Derived.Test.YthgnhamokikhkaaDrwA
namespace Go.Proofs.Ythgnhamokikhkaa.matD
open Go.ChangeShapes Go.WideShapes Go.ChangeAt Go.RowKit
open draw gridP gridC gridE bitP mazeP mazeC mazeM mazeR mazeS intsP reachD intA intK listK rowsP matP matM matQ matR
set_option linter.unusedVariables false

theorem abS_two : ∀ {l : List Int}, (∀ z ∈ l, -2 ≤ z ∧ z ≤ 2) → abS l ≤ 2 * l.length
  | [], _ => by simp [abS]
  | z :: l, h => by
    have h1 := abS_two (l := l) fun u hu => h u (List.mem_cons_of_mem _ hu)
    have h2 := h z List.mem_cons_self
    have e : abS (z :: l) = max z (-z) + abS l := by simp [abS]
    rw [e, List.length_cons, Int.max_def]
    split <;> omega
/-- A drawn matrix is valid. -/
theorem sq_drawn {ls : List (List Int)} {n : Nat} (hn : n ≤ 5) (hl : ls.length = n) (h : ∀ l ∈ ls, l.length = n ∧ ∀ z ∈ l, -2 ≤ z ∧ z ≤ 2) : sqB ls = true := by
  unfold sqB
  rw [Bool.and_eq_true, List.all_eq_true]
  refine ⟨fun l hm => ?_, decide_eq_true (by omega)⟩
  obtain ⟨h1, h2⟩ := h l hm
  unfold rowB
  have := abS_two h2
  rw [decide_eq_true (show l.length = ls.length by omega), List.all_eq_true.2 fun z hz => decide_eq_true (by have := h2 z hz; omega), decide_eq_true (by omega)]
  rfl

/-- The cursor and the rows so far. -/
def DQ (w : World) (g : Nat) (ls : List (List Int)) (v : Value) (X : World) : Prop := Cur X g ∧ w.grownBy X (some g) ∧ MxOw X w.heap.size X.heap.size v ls
/-- .. and a row that is drawn. -/
def DR (w : World) (g : Nat) (ls : List (List Int)) (v : Value) (RB : Nat) (l : List Int) (r : Value) (X : World) : Prop :=
  Cur X g ∧ w.grownBy X (some g) ∧ MxOw X w.heap.size RB v ls ∧ w.heap.size ≤ RB ∧ RB ≤ X.heap.size ∧ X.ownsRow RB 3 1 r l.length (icells l)
theorem grown_low {w X X' : World} {g B : Nat} (h : w.grownBy X (some g)) (hb : Below B X X') (hB : w.heap.size ≤ B) : w.grownBy X' (some g) :=
  ⟨hb.os.trans h.os, hb.tape.trans h.tape, hb.output.trans h.output, Nat.le_trans h.size hb.size, fun k hk hne => (hb.block k (by omega)).trans (h.block k hk hne)⟩
theorem DQ.draw {w X X' : World} {g : Nat} {ls : List (List Int)} {v : Value} (h : DQ w g ls v X) (hlt : g < w.heap.size) (hc : Cur X' g) (hg : X.grownBy X' (some g)) : DQ w g ls v X' :=
  ⟨hc, only_trans h.2.1 hg, (h.2.2.outside fun k h1 h2 hk => hg.block k hk (fun e => by have := Option.some.inj e; omega)).high hg.size⟩
theorem DQ.new {w X : World} {g : Nat} {ls : List (List Int)} {v : Value} (h : DQ w g ls v X) : DR w g ls v X.heap.size [] (.slice (some ⟨X.heap.size, 0, none⟩) 0 0) (X.alloc (.cells #[] 3)) :=
  ⟨h.1.alloc1 _, only_alloc1 h.2.1 _, h.2.2.call (below_box X _), h.2.1.size, by simp, (ol_new (Below.refl X.heap.size X) (Nat.le_refl _)).2.2.2⟩
theorem DR.draw {w X X' : World} {g RB : Nat} {ls : List (List Int)} {l : List Int} {v r : Value} (h : DR w g ls v RB l r X) (hlt : g < w.heap.size) (hc : Cur X' g) (hg : X.grownBy X' (some g)) : DR w g ls v RB l r X' := by
  obtain ⟨h1, h2, h3, h4, h5, h6⟩ := h
  refine ⟨hc, only_trans h2 hg, h3.outside fun k a b hk => hg.block k hk (fun e => by have := Option.some.inj e; omega), h4, Nat.le_trans h5 hg.size, h6.kept hg ?_⟩
  cases hv : r.ownBlock with
  | none => exact .inl rfl
  | some q => exact .inr fun e => by have := (h6.lt q hv).1; have := Option.some.inj e; omega
theorem DR.app {w X X' : World} {g RB gg cap : Nat} {ls : List (List Int)} {l : List Int} {v r : Value} {o : Obj} {u : Int} (h : DR w g ls v RB l r X) (hlt : g < w.heap.size)
    (ho : X'.ownsRow RB 3 1 (.slice (some ⟨gg, 0, none⟩) (l.length + 1) cap) (l.length + 1) (icells l ++ icells [u])) (hg : (X.alloc o).grownBy X' r.ownBlock) : DR w g ls v RB (l ++ [u]) (.slice (some ⟨gg, 0, none⟩) (l.length + 1) cap) X' := by
  obtain ⟨h1, h2, h3, h4, h5, h6⟩ := h
  have hb : Below RB X X' := below_app (Below.refl _ _) (Nat.le_refl _) h5 h6 hg
  refine ⟨h1.kept hb (by omega), grown_low h2 hb h4, h3.outside fun k a b hk => hb.block k b, h4, Nat.le_trans h5 hb.size, ?_⟩
  rw [List.length_append, icells_append]; exact ho
/-- The row takes its place. -/
theorem DR.done {w X : World} {g RB : Nat} {ls : List (List Int)} {l : List Int} {v r : Value} (h : DR w g ls v RB l r X) (hlt : g < w.heap.size) :
    ∃ cs : List Value, X.ownsRow w.heap.size 34 1 v ls.length cs ∧ ∀ (o : Obj) (X5 : World) (gg cap : Nat), X5.ownsRow w.heap.size 34 1 (.slice (some ⟨gg, 0, none⟩) (ls.length + 1) cap) (ls.length + 1) (cs ++ [r]) → (X.alloc o).grownBy X5 v.ownBlock →
      DQ w g (ls ++ [l]) (.slice (some ⟨gg, 0, none⟩) (ls.length + 1) cap) X5 := by
  obtain ⟨h1, h2, h3, h4, h5, h6⟩ := h
  have hML : ML { X with heap := #[] } w.heap.size ls v X := ⟨⟨rfl, rfl, rfl, Nat.zero_le _, fun k hk => absurd hk (Nat.not_lt_zero k)⟩, Nat.zero_le _, Nat.le_trans h4 h5, h3.high h5⟩
  obtain ⟨cs, c1, c2, c3, c4⟩ := id h3
  refine ⟨cs, c1, fun o X5 gg cap ho hg => ?_⟩
  have hA : ∀ (i : Nat) (k : List Int), ls[i]? = some k → ∃ c, cs[i]? = some c ∧ X.ownsRow w.heap.size 3 1 c k.length (icells k) ∧ ∀ q, c.ownBlock = some q → q < X.heap.size := fun i k hk => by
    obtain ⟨c, d1, d2, d3⟩ := c3 i k hk
    exact ⟨c, d1, d2, fun q hq => Nat.lt_of_lt_of_le (d3 q hq) h5⟩
  have hB : ∀ (i : Nat) (c : Value) (q : Nat), cs[i]? = some c → c.ownBlock = some q → r.ownBlock ≠ some q := fun i c q hc hq e => by
    have hi : i < ls.length := by have := (List.getElem?_eq_some_iff.1 hc).1; have := c1.1; omega
    obtain ⟨c', d1, d2, d3⟩ := c3 i _ (List.getElem?_eq_getElem hi)
    rw [hc] at d1; cases d1
    have := d3 q hq
    have := (h6.lt q e).1
    omega
  obtain ⟨m1, m2⟩ := hML.app ⟨c1, hA, c4⟩ (own_base h6 h4) hB ho hg
  exact ⟨h1.kept m2 hlt, grown_low h2 m2 (Nat.le_refl _), m1.2.2.2⟩
/-- A valid matrix is drawn with the cursor. -/
def DrawnQ (g : Nat) (w : World) (e : Ending) (w' : World) : Prop := ∃ ls v, (sqB ls = true ∧ ls.length ≤ 5) ∧ e = .returned v ∧ Cur w' g ∧ w.grownBy w' (some g) ∧ MxOw w' w.heap.size w'.heap.size v ls
theorem drawnQ_mk {g : Nat} {w w' : World} {ls : List (List Int)} {v : Value} {n : Nat} (hn : n ≤ 5) (hl : ls.length = n) (h : ∀ l ∈ ls, l.length = n ∧ ∀ z ∈ l, -2 ≤ z ∧ z ≤ 2) (hd : DQ w g ls v w') : DrawnQ g w (.returned v) w' :=
  ⟨ls, v, ⟨sq_drawn hn hl h, by omega⟩, rfl, hd.1, hd.2.1, hd.2.2⟩

set_option maxRecDepth 100000 in
set_option maxHeartbeats 4000000 in
theorem square_any (g : Nat) (w : World) (hc : Cur w g) :
    Calls Try.prog 90 #[.pointer (some ⟨g, 0, none⟩)] w (DrawnQ g w) := by
  obtain ⟨j0, hj0, hy0, hy1, hy2⟩ := info_parts info_row
  obtain ⟨i0, hi0, hz0, hz1, hz2⟩ := info_parts info_int
  have hlt := hc.lt
  have hd0 : Hid (DQ w g [] (.slice (some ⟨w.heap.size, 0, none⟩) 0 0) (w.alloc (.cells #[] 34))) := Lib.hid ⟨hc.alloc1 _, only_alloc1 (World.grownBy.refl w (some g)) _, (ml_new (Below.refl w.heap.size w) (Nat.le_refl _)).2.2.2⟩
  have HK := @Lib.hid _ (fun w' v ls n a b c d => @drawnQ_mk g w w' ls v n a b c d)
  clear hc
  go_enter Try.func90, Try.ntmps90
  go_wp2_with fail
  refine (below_any g 6 _ hd0.out.1 (by decide) (by decide)).mono ?_
  rintro e w1 ⟨n, hn6, rfl, hc1, hg1⟩
  have hn : n ≤ 5 := by omega
  have hd := Lib.hid (hd0.out.draw hlt hc1 hg1)
  clear hd0 hc1 hg1 hn6
  go_wp2_with fail
  go_loopw [3, 5] (fun u3 u5 wr => ∃ i : Nat, i ≤ n ∧ u5 = .int .i64 i ∧ ∃ ls : List (List Int), ls.length = i ∧ (∀ l ∈ ls, l.length = n ∧ ∀ z ∈ l, -2 ≤ z ∧ z ≤ 2) ∧ DQ w g ls u3 wr) (fun _ u5 _ => n - (intOf u5).toNat)
  case atStart => exact ⟨0, Nat.zero_le _, rfl, [], rfl, fun l hl => absurd hl (by simp), hd.out⟩
  case round =>
    clear hd
    obtain ⟨i, hi, rfl, ls, hli0, hls0, hd0⟩ := hrel
    have hd := Lib.hid hd0
    have Hls := Lib.hid hls0
    have Hli := Lib.hid hli0
    clear hd0 hls0 hli0
    have hi0' : (0 : Int) ≤ (i : Int) := Int.natCast_nonneg _
    by_cases hin : i < n
    · have hi1 : (i : Int) < (n : Int) := by omega
      obtain ⟨A3, c3, hv3⟩ := hd.out.2.2.form
      rw [Hli.out] at hv3
      subst hv3
      have hr := Lib.hid hd.out.new
      have hrz := hd.out.2.1.size
      clear hd
      go_wp2_with fail
      generalize wr.heap.size = RB at *
      go_loopw [6, 7] (fun u6 u7 wq => ∃ k : Nat, k ≤ n ∧ u7 = .int .i64 k ∧ ∃ l : List Int, l.length = k ∧ (∀ z ∈ l, -2 ≤ z ∧ z ≤ 2) ∧ DR w g ls (.slice A3 i c3) RB l u6 wq) (fun _ u7 _ => n - (intOf u7).toNat)
      case atStart => exact ⟨0, Nat.zero_le _, rfl, [], rfl, fun z hz => absurd hz (by simp), hr.out⟩
      case round =>
        clear hr
        obtain ⟨k, hk, rfl, l, hlk0, hlz0, hr0⟩ := hrel
        have hr := Lib.hid hr0
        have Hlz := Lib.hid hlz0
        have Hlk := Lib.hid hlk0
        clear hr0 hlz0 hlk0
        have hkz : (0 : Int) ≤ (k : Int) := Int.natCast_nonneg _
        obtain ⟨A6, c6, hv6⟩ := own_form hr.out.2.2.2.2.2
        rw [Hlk.out] at hv6
        subst hv6
        by_cases hkn : k < n
        · have hk1 : (k : Int) < (n : Int) := by omega
          go_wp2_with fail
          refine (below_any g 5 _ hr.out.1 (by decide) (by decide)).mono ?_
          rintro e w2 ⟨x, hx5, rfl, hc2, hg2⟩
          have hr2 := Lib.hid (hr.out.draw hlt hc2 hg2)
          clear hr hc2 hg2
          have hx4 : x ≤ 4 := by omega
          have hwx : IntKind.i64.wrap ((x : Int) - 2) = (x : Int) - 2 := IntWalk.i64_in _ (by omega)
          have hown := hr2.out.2.2.2.2.2
          rw [Hlk.out] at hown
          have hRz := hr2.out.2.2.2.2.1
          go_wp2_with (at_builtin; refine wpList_append_lies _ rfl (.tmp 22) (.tmp 26) 34 rfl RB 3 i0 _ 1 8 Try.underlying34 hi0 hz0 hz1 hz2 rfl (by decide) _ k _ rfl (hown.alloc _) ⟨w2.heap.size, 0, none⟩ 1 1 (icells [(x : Int) - 2]) rfl rfl (news_eqI rfl (heap_alloc_new w2 _)) (oneCellI _) (by omega) (by unfold maxLen; omega) (by omega) (by simp; omega) _ rfl ?_; intro gg cap w3 o3 g3 hat hlt2; clear hat hlt2)
          have hr3 : Hid (DR w g ls (.slice A3 i c3) RB (l ++ [(x : Int) - 2]) (.slice (some ⟨gg, 0, none⟩) (k + 1) cap) w3) := Lib.hid (by
            have := hr2.out.app (gg := gg) (cap := cap) hlt (by rw [Hlk.out]; exact o3) g3
            rw [Hlk.out] at this; exact this)
          clear o3 g3 hown hr2
          go_roundw
          case rel => exact ⟨k + 1, by omega, by go_num, _, by rw [List.length_append, Hlk.out]; rfl, fun z hz => by
            rcases List.mem_append.1 hz with h | h
            · exact Hlz.out z h
            · rw [List.mem_singleton.1 h]; omega, hr3.out⟩
          case measure => simp [intOf]; omega
        · obtain rfl : k = n := by omega
          obtain ⟨cs, hcs, hcsN⟩ := hr.out.done hlt
          rw [Hli.out] at hcs hcsN
          have hgz := hr.out.2.1.size
          go_wp2_with (at_builtin; refine wpList_append_lies _ rfl (.tmp 28) (.tmp 30) 38 rfl w.heap.size 34 j0 _ 1 24 Try.underlying38 hj0 hy0 hy1 hy2 rfl (by decide) _ i cs rfl (hcs.alloc _) ⟨wr.heap.size, 0, none⟩ 1 1 [.slice A6 k c6] rfl rfl (news_eqI rfl (heap_alloc_new wr _)) (fun u hu => by rw [List.mem_singleton.1 hu]; rfl) (by omega) (by unfold maxLen; omega) (by omega) (by simp; omega) _ rfl ?_; intro gg cap w5 o5 g5 hat hlt2; clear hat hlt2)
          have hd5 := Lib.hid (hcsN _ w5 gg cap o5 g5)
          clear o5 g5 hcsN hcs
          go_roundw
          case rel => exact ⟨i + 1, by omega, by go_num, _, by rw [List.length_append, Hli.out]; rfl, fun m hm => by
            rcases List.mem_append.1 hm with h | h
            · exact Hls.out m h
            · rw [List.mem_singleton.1 h]; exact ⟨Hlk.out, Hlz.out⟩, hd5.out⟩
          case measure => simp [intOf]; omega
    · obtain rfl : i = n := by omega
      obtain ⟨A3, c3, rfl⟩ := hd.out.2.2.form
      go_wp2_with fail
      go_ret
      exact HK.out _ _ ls i hn Hli.out Hls.out hd.out

/-- A valid matrix that is drawn from a code. -/
def SqDrawn (w : World) (e : Ending) (w' : World) : Prop := ∃ ls v, (sqB ls = true ∧ ls.length ≤ 5) ∧ e = .returned v ∧ MxOw w' w.heap.size w'.heap.size v ls ∧ Below w.heap.size w w'
theorem sqDrawn_mk {w w' : World} {ls : List (List Int)} {v : Value} (h : sqB ls = true ∧ ls.length ≤ 5) (ho : MxOw w' w.heap.size w'.heap.size v ls) (hb : Below w.heap.size w w') : SqDrawn w (.returned v) w' := ⟨ls, v, h, rfl, ho, hb⟩
theorem drawSquare_any (A : Option Addr) (n c : Nat) (w : World) (hn : n ≤ maxLen) (hb : BytesIn w w.heap.size A n) :
    Calls Try.prog 33 #[.slice A n c] w (SqDrawn w) := by
  have HK := @Lib.hid _ (fun w' v ls a b c => @sqDrawn_mk w w' ls v a b c)
  go_enter Try.func33, Try.ntmps33
  go_wp2_with fail
  refine (new_any A n c _ hn hb).mono ?_
  rintro e w1 ⟨rfl, hc1, hb1, hs1⟩
  have HB1 := Lib.hid hb1
  have hz1 : w.heap.size < w1.heap.size := by omega
  clear hs1 hb1 hb
  go_wp2_with fail
  refine (square_any _ _ hc1).mono ?_
  rintro e w2 ⟨ls, v, hls, rfl, hc2, hg2, ho⟩
  obtain ⟨A', c', rfl⟩ := ho.form
  have HO := Lib.hid (ho.low (Nat.le_of_lt hz1))
  have HB2 := Lib.hid (HB1.out.grown hg2 (by omega) (fun k hk => by cases hk; omega))
  have Hls := Lib.hid hls
  clear hls ho hg2 hc2 hc1
  go_wp2_with fail
  go_ret
  exact HK.out _ _ ls Hls.out HO.out HB2.out
end Go.Proofs.Ythgnhamokikhkaa.matD
