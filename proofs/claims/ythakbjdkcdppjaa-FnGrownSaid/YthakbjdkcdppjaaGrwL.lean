/- The draw of choices. -/
import Derived.Test.YthakbjdkcdppjaaGrwM
import Derived.Test.YthakbjdkcdppjaaDrwA
import Derived.Test.YthakbjdkcdppjaaListW
namespace Go.Proofs.Ythakbjdkcdppjaa.grwL
open Go.ChangeShapes Go.WideShapes Go.ChangeAt Go.RowKit
open draw gridP gridC gridE bitP mazeP mazeC mazeM mazeR mazeS intsP intA listK listW reachP reachM reachN reachD wayP ersP ersO entO grwP grwO
set_option linter.unusedVariables false

theorem grown_low {w X X' : World} {g B : Nat} (h : w.grownBy X (some g)) (hb : Below B X X') (hB : w.heap.size ≤ B) : w.grownBy X' (some g) :=
  ⟨hb.os.trans h.os, hb.tape.trans h.tape, hb.output.trans h.output, Nat.le_trans h.size hb.size, fun i hi hne => (hb.block i (Nat.lt_of_lt_of_le hi hB)).trans (h.block i hi hne)⟩
theorem grown_belowC {w X X' : World} {row : Option Nat} (h : w.grownBy X row) (hb : Below X.heap.size X X') : w.grownBy X' row :=
  ⟨hb.os.trans h.os, hb.tape.trans h.tape, hb.output.trans h.output, Nat.le_trans h.size hb.size, fun i hi hne => (hb.block i (Nat.lt_of_lt_of_le hi h.size)).trans (h.block i hi hne)⟩
theorem three_in (k : Nat) (hk : k < 3) : (-9223372036854775808 : Int) ≤ ([-1, 9223372036854775807, -9223372036854775808] : List Int).getD k 0 ∧ ([-1, 9223372036854775807, -9223372036854775808] : List Int).getD k 0 ≤ 9223372036854775807 := by
  match k, hk with
  | 0, _ => simp
  | 1, _ => simp
  | 2, _ => simp
theorem three_cells (w : World) (B : Nat) (hB : w.heap.size = B) (T : TypeId) (k : Nat) (hk : k < 3) : (w.alloc (.cells #[.int .i64 (-1), .int .i64 9223372036854775807, .int .i64 (-9223372036854775808)] T)).cell? ⟨B, k, none⟩ = some (.int .i64 (([-1, 9223372036854775807, -9223372036854775808] : List Int).getD k 0)) := by
  subst hB
  rw [World.cell?_alloc_new]
  match k, hk with
  | 0, _ => rfl
  | 1, _ => rfl
  | 2, _ => rfl
/-- What stands while choices are drawn: the cursor, the choices so far. -/
def WC (w : World) (g : Nat) (l : List Int) (v : Value) (X : World) : Prop :=
  Cur X g ∧ w.grownBy X (some g) ∧ w.heap.size ≤ X.heap.size ∧ X.ownsRow w.heap.size 3 1 v l.length (icells l)
section
variable {w X X' : World} {g : Nat} {l : List Int} {v : Value}
theorem WC.below (h : WC w g l v X) (hb : Below X.heap.size X X') : WC w g l v X' := by
  obtain ⟨h1, h2, h4, h5⟩ := h
  exact ⟨h1.kept hb h1.lt, grown_belowC h2 hb, Nat.le_trans h4 hb.size, own_call h5 hb⟩
theorem WC.draw (h : WC w g l v X) (hlt : g < w.heap.size) (hc' : Cur X' g) (hg' : X.grownBy X' (some g)) : WC w g l v X' := by
  obtain ⟨h1, h2, h4, h5⟩ := h
  refine ⟨hc', only_trans h2 hg', Nat.le_trans h4 hg'.size, h5.kept hg' ?_⟩
  rcases h5.2 with ⟨rfl, _⟩ | ⟨q, cap, cur, rfl, hq, _⟩
  · exact .inl rfl
  · exact .inr fun e => by simp [Value.ownBlock] at e; omega
theorem WC.app {gg cap : Nat} {o : Obj} {u : Int} (h : WC w g l v X) (hlt : g < w.heap.size)
    (ho : X'.ownsRow w.heap.size 3 1 (.slice (some ⟨gg, 0, none⟩) (l.length + 1) cap) (l.length + 1) (icells l ++ icells [u])) (hgr : (X.alloc o).grownBy X' v.ownBlock) :
    WC w g (l ++ [u]) (.slice (some ⟨gg, 0, none⟩) (l.length + 1) cap) X' := by
  obtain ⟨h1, h2, h4, h5⟩ := h
  have hb : Below w.heap.size X X' := below_app (Below.refl _ _) (Nat.le_refl _) h4 h5 hgr
  refine ⟨h1.kept hb hlt, grown_low h2 hb (Nat.le_refl _), Nat.le_trans h4 hb.size, ?_⟩
  rw [List.length_append, icells_append]; exact ho
theorem wc_start (hc : Cur w g) : WC w g [] (.slice (some ⟨w.heap.size, 0, none⟩) 0 0) (w.alloc (.cells #[] 3)) := by
  refine ⟨hc.alloc1 _, only_alloc1 (World.grownBy.refl w _) _, by simp, ?_⟩
  have := World.ownsRow_lit (base := w.heap.size) (e := 3) (size := 1) w #[] 0 (by simp) (by decide) rfl
  simpa [icells] using this
end
/-- Choices are drawn with the cursor. -/
def DrawnC (g : Nat) (w : World) (e : Ending) (w' : World) : Prop := ∃ (l : List Int) (v : Value), (l.length ≤ 20 ∧ ∀ u ∈ l, (-9223372036854775808 : Int) ≤ u ∧ u ≤ 9223372036854775807) ∧ e = .returned v ∧ w'.ownsRow w.heap.size 3 1 v l.length (icells l) ∧ Cur w' g ∧ w.grownBy w' (some g)
theorem drawnC_mk {g : Nat} {w X : World} {l : List Int} {v : Value} (h1 : l.length ≤ 20) (h2 : ∀ u ∈ l, (-9223372036854775808 : Int) ≤ u ∧ u ≤ 9223372036854775807) (h : WC w g l v X) : DrawnC g w (.returned v) X :=
  ⟨l, v, ⟨h1, h2⟩, rfl, h.2.2.2, h.1, h.2.1⟩

set_option maxRecDepth 100000 in
set_option maxHeartbeats 1000000 in
theorem choices_any (g : Nat) (w : World) (hc : Cur w g) :
    Calls Try.prog 22 #[.pointer (some ⟨g, 0, none⟩)] w (DrawnC g w) := by
  obtain ⟨i0, hi0, hz0, hz1, hz2⟩ := info_parts info_int
  have hlt := hc.lt
  have HK := @Lib.hid _ (fun X l v a1 a2 a3 => @drawnC_mk g w X l v a1 a2 a3)
  have HS0 := Lib.hid (@wc_start w g hc)
  clear hc
  go_enter Try.func22, Try.ntmps22
  go_wp2_with fail
  refine (below_any g 20 _ HS0.out.1 (by omega) (by omega)).mono ?_
  rintro e w1 ⟨n, hn, rfl, hc1, hg1⟩
  have hs1 := Lib.hid (HS0.out.draw hlt hc1 hg1)
  have hn20 : n < 20 := by omega
  clear hc1 hg1 HS0 hn
  go_wp2_with fail
  go_loopw [3, 5] (fun u3 u5 wr => ∃ (k : Nat) (l : List Int), k ≤ n ∧ l.length ≤ k ∧ (∀ u ∈ l, (-9223372036854775808 : Int) ≤ u ∧ u ≤ 9223372036854775807) ∧ u5 = .int .i64 (k : Int) ∧ WC w g l u3 wr) (fun _ u5 _ => n - (intOf u5).toNat)
  case atStart => exact ⟨0, [], Nat.zero_le _, Nat.le_refl _, fun u hu => by simp at hu, rfl, hs1.out⟩
  case round =>
    clear hs1
    obtain ⟨k, l, hk, hlk, hmem, rfl, hs0⟩ := hrel
    have hs := Lib.hid hs0
    have HM := Lib.hid hmem
    obtain ⟨A3, c3, rfl⟩ := own_form hs0.2.2.2
    have hsz := hs0.2.2.1
    clear hs0 hmem
    by_cases hkn : k < n
    · have hk0 : (0 : Int) ≤ (k : Int) := Int.natCast_nonneg _
      have hk1 : (k : Int) < (n : Int) := by omega
      go_wp2_with fail
      refine (below_any g 50 _ hs.out.1 (by omega) (by omega)).mono ?_
      rintro e w3 ⟨x, hx, rfl, hc3, hg3⟩
      have hs3 := Lib.hid (hs.out.draw hlt hc3 hg3)
      have hsz3 := hs3.out.2.2.1
      have hx0 : (0 : Int) ≤ (x : Int) := Int.natCast_nonneg _
      have hx50 : (x : Int) < 50 := hx
      clear hc3 hg3 hs hsz hx
      go_wp2_with (at_builtin; refine wpList_append_lies _ rfl (.tmp 14) (.tmp 17) 26 rfl (w.heap.size) 3 i0 _ 1 8 Try.underlying26 hi0 hz0 hz1 hz2 rfl (by omega) _ (l.length) _ rfl (hs3.out.2.2.2.alloc _) ⟨w3.heap.size, 0, none⟩ 1 1 (icells [(x : Int)]) rfl rfl (news_eqI rfl (heap_alloc_new w3 _)) (oneCellI _) (by omega) (by unfold maxLen; omega) (by omega) (by simp; omega) (w3.heap.size + 1) (by simp) ?_; intro gg cap w3 hown' hgrow hat hlt2; clear hlt2; have HAt := Lib.hid hat; clear hat)
      have hs4 := Lib.hid (hs3.out.app hlt hown' hgrow)
      go_roundw
      case rel => exact ⟨k + 1, l ++ [(x : Int)], by omega, by simp; omega, fun u hu => by
        rcases List.mem_append.1 hu with h | h
        · exact HM.out u h
        · obtain rfl := List.mem_singleton.1 h
          omega, by go_num, by simpa using hs4.out⟩
      case measure => simp [intOf]; omega
    · obtain rfl : k = n := by omega
      go_wp2_with fail
      refine (once_any g 8 _ hs.out.1 (by omega) (by omega)).mono ?_
      rintro e w3 ⟨b, rfl, hc3, hg3⟩
      have hs3 := Lib.hid (hs.out.draw hlt hc3 hg3)
      have hsz3 := hs3.out.2.2.1
      clear hc3 hg3 hs hsz
      cases b with
      | false =>
        go_wp2_with fail
        go_ret
        exact HK.out _ _ _ (by omega) HM.out hs3.out
      | true =>
        have hs4 := Lib.hid (hs3.out.below (below_box w3 (.cells #[.int .i64 (-1), .int .i64 9223372036854775807, .int .i64 (-9223372036854775808)] 3)))
        have hlt3 := hs3.out.1.lt
        clear hs3
        go_wp2_with fail
        refine (pickInt_all (fun z => (-9223372036854775808 : Int) ≤ z ∧ z ≤ 9223372036854775807) g w3.heap.size 3 [-1, 9223372036854775807, -9223372036854775808] _ hs4.out.1 (by omega) (by omega) (by omega) (by simp) ?_ (fun k hk => three_in k hk)).mono ?_
        · exact fun k hk => three_cells _ _ rfl _ k hk
        rintro e w5 ⟨z, hz, rfl, hc5, hg5⟩
        have hs5 := Lib.hid (hs4.out.draw hlt hc5 hg5)
        have hsz5 := hs5.out.2.2.1
        clear hc5 hg5 hs4 hlt3 hsz3
        have HZ := Lib.hid hz
        clear hz
        go_wp2_with (at_builtin; refine wpList_append_lies _ rfl (.tmp 21) (.tmp 25) 26 rfl (w.heap.size) 3 i0 _ 1 8 Try.underlying26 hi0 hz0 hz1 hz2 rfl (by omega) _ (l.length) _ rfl (hs5.out.2.2.2.alloc _) ⟨w5.heap.size, 0, none⟩ 1 1 (icells [z]) rfl rfl (news_eqI rfl (heap_alloc_new w5 _)) (oneCellI _) (by omega) (by unfold maxLen; omega) (by omega) (by simp; omega) (w5.heap.size + 1) (by simp) ?_; intro gg cap w3 hown' hgrow hat hlt2; clear hlt2; have HAt := Lib.hid hat; clear hat)
        have hs6 := Lib.hid (hs5.out.app hlt hown' hgrow)
        go_ret
        exact HK.out _ (l ++ [z]) _ (by simp; omega) (fun u hu => by
          rcases List.mem_append.1 hu with h | h
          · exact HM.out u h
          · obtain rfl := List.mem_singleton.1 h
            exact HZ.out) (by simpa using hs6.out)

theorem own_setC {X : World} {base n : Nat} {v : Value} {xs : List Value} (h : X.ownsRow base 3 1 v n xs) {p : Addr} (hp : p.block < base) (u : Value) : (X.setCell p u).ownsRow base 3 1 v n xs :=
  ownsRow_setCell_below h hp u
/-- A grid and choices are drawn from a code. -/
def ChoicesDrawn (w : World) (e : Ending) (w' : World) : Prop := ∃ (x y : Int) (l : List Int) (v : Value), ((1 ≤ x ∧ x ≤ 4 ∧ 1 ≤ y ∧ y ≤ 4) ∧ l.length ≤ 20 ∧ ∀ u ∈ l, (-9223372036854775808 : Int) ≤ u ∧ u ≤ 9223372036854775807) ∧ e = .returned (.tuple #[.agg #[.int .i64 x, .int .i64 y], v]) ∧ w'.ownsRow w.heap.size 3 1 v l.length (icells l) ∧ Below w.heap.size w w'
theorem choicesDrawn_mk {w X Y : World} {x y : Int} {l : List Int} {v : Value} {B : Nat} (hk : 1 ≤ x ∧ x ≤ 4 ∧ 1 ≤ y ∧ y ≤ 4) (h1 : l.length ≤ 20 ∧ ∀ u ∈ l, (-9223372036854775808 : Int) ≤ u ∧ u ≤ 9223372036854775807) (hB : w.heap.size < B) (ho : X.ownsRow B 3 1 v l.length (icells l)) (hb : Below w.heap.size w X)
    (hY : Y = (X.setCell ⟨w.heap.size, 0, none⟩ (.int .i64 x)).setCell ⟨w.heap.size, 1, none⟩ (.int .i64 y)) : ChoicesDrawn w (.returned (.tuple #[.agg #[.int .i64 x, .int .i64 y], v])) Y := by
  subst hY
  exact ⟨x, y, l, v, ⟨hk, h1⟩, rfl, own_base (own_setC (own_setC ho (p := ⟨w.heap.size, 0, none⟩) hB _) (p := ⟨w.heap.size, 1, none⟩) hB _) (Nat.le_of_lt hB), (hb.setCell (Nat.le_refl _) _).setCell (Nat.le_refl _) _⟩

set_option maxRecDepth 100000 in
set_option maxHeartbeats 1000000 in
theorem drawChoices_any (A : Option Addr) (n c : Nat) (w : World) (hn : n ≤ maxLen) (hb : BytesIn w w.heap.size A n) :
    Calls Try.prog 8 #[.slice A n c] w (ChoicesDrawn w) := by
  have HK := @Lib.hid _ (fun X Y x y l v B h1 h2 h3 h4 h5 h6 => @choicesDrawn_mk w X Y x y l v B h1 h2 h3 h4 h5 h6)
  have HB := Lib.hid ((Below.refl w.heap.size w).alloc (Nat.le_refl _) (.cells #[.int .i64 0, .int .i64 0] 25))
  have HY := Lib.hid ((hb.keep (w' := w.alloc (.cells #[.int .i64 0, .int .i64 0] 25)) fun p hp => HB.out.cell hp).more (B' := w.heap.size + 1) (by omega))
  clear hb
  go_enter Try.func8, Try.ntmps8
  go_wp2_with fail
  refine (new_any A n c _ hn (by simpa using HY.out)).mono ?_
  rintro e w1 ⟨rfl, hc1, hb1, hs1⟩
  have HR1 := Lib.hid (Row2.call (row2_new 0 0 w _) hb1)
  have HB1 := Lib.hid (HB.out.trans (hb1.mono (by simp)))
  have hz : w1.heap.size = w.heap.size + 2 := by simp at hs1; omega
  have hz1 : w.heap.size + 2 ≤ w1.heap.size := by omega
  clear hs1 hb1 hz HB HY
  go_wp2_with fail
  refine (grid_any _ _ (by simpa using hc1)).mono ?_
  rintro e w2 ⟨x, y, hv, rfl, hc2, hg2⟩
  have HR2 := Lib.hid (row2_grown HR1.out hg2 (fun e => by have := Option.some.inj e; omega))
  have HB2 := Lib.hid (HB1.out.grown hg2 (by omega) (fun k hk => by cases hk; omega))
  have hz2 := Nat.le_trans hz1 hg2.size
  have hc3 := Lib.hid hc2
  have HV := Lib.hid hv
  clear hg2 hc1 hc2 hv HR1 HB1 hz1
  go_wp2_with fail
  refine (choices_any _ _ hc3.out).mono ?_
  rintro e w3 ⟨l, v, hl, rfl, ho, hc4, hg3⟩
  have HR3 := Lib.hid (row2_grown HR2.out hg3 (fun e => by have := Option.some.inj e; omega))
  have HB3 := Lib.hid (HB2.out.grown hg3 (by omega) (fun k hk => by cases hk; omega))
  have HO := Lib.hid ho
  have HL := Lib.hid hl
  obtain ⟨A6, c6, rfl⟩ := own_form ho
  obtain ⟨⟨c0, c1⟩, f0, f1⟩ := row2_cells HR3.out
  clear hg3 hc4 ho hl hc3 HR2 HB2
  go_wp2_with fail
  refine ret_set2 c0 c1 fun Y e0 e1 hY => ?_
  exact bodyPost_ret (v := .tuple #[.agg #[.int .i64 x, .int .i64 y], .slice A6 l.length c6]) (by simp [results, Try.results8, go_sem, e0, e1]) rfl (HK.out _ _ _ _ _ _ _ HV.out HL.out (by omega) HO.out HB3.out hY)
end Go.Proofs.Ythakbjdkcdppjaa.grwL
