/- The draw of a walk in a full grid, and of a tour: a grid, a cell, a walk. -/
import Derived.Test.YtgocbnnhhpmndaaEntO
import Derived.Test.YtgocbnnhhpmndaaDrwA
import Derived.Test.YtgocbnnhhpmndaaListW
import Derived.Test.YtgocbnnhhpmndaaRchM
namespace Go.Proofs.Ytgocbnnhhpmndaa.entD
open Go.ChangeShapes Go.WideShapes Go.ChangeAt Go.RowKit
open draw gridP gridC gridE bitP mazeP mazeQ mazeC mazeM mazeR mazeS mazeE intsP intA listK listW reachP reachM reachN reachD wayP ersP ersO entP entO
set_option linter.unusedVariables false

/-! ### plain -/
theorem four_in {x : Nat} (hx : x < 20) (k : Nat) (hk : k < 4) : 0 ≤ ([120, 120, 60, (x : Int)] : List Int).getD k 0 ∧ ([120, 120, 60, (x : Int)] : List Int).getD k 0 ≤ 120 := by
  match k, hk with
  | 0, _ => simp
  | 1, _ => simp
  | 2, _ => simp
  | 3, _ => simp; omega
theorem four_cells (w : World) (B : Nat) (x : Int) (hB : w.heap.size = B) (T : TypeId) (k : Nat) (hk : k < 4) : (w.alloc (.cells #[.int .i64 120, .int .i64 120, .int .i64 60, .int .i64 x] T)).cell? ⟨B, k, none⟩ = some (.int .i64 (([120, 120, 60, x] : List Int).getD k 0)) := by
  subst hB
  rw [World.cell?_alloc_new]
  match k, hk with
  | 0, _ => rfl
  | 1, _ => rfl
  | 2, _ => rfl
  | 3, _ => rfl
theorem mbox_grown {b g : Nat} {x y z : Int} {X X' : World} (h : MBox b x y z X) (hg : X.grownBy X' (some g)) (hne : b ≠ g) : MBox b x y z X' := by
  obtain ⟨⟨c0, c1, c2⟩, hl⟩ := h
  have hr : some b ≠ some g := fun e => hne (Option.some.inj e)
  exact ⟨⟨hg.cell c0 hr, hg.cell c1 hr, hg.cell c2 hr⟩, Nat.lt_of_lt_of_le hl hg.size⟩
theorem mbox_row {b : Nat} {x y z : Int} {X X' : World} {o : Obj} {r : Option Nat} (h : MBox b x y z X) (hg : (X.alloc o).grownBy X' r) (hne : r ≠ some b) : MBox b x y z X' := by
  obtain ⟨⟨c0, c1, c2⟩, hl⟩ := h.call (below_box X o)
  have hr : some b ≠ r := fun e => hne e.symm
  exact ⟨⟨hg.cell c0 hr, hg.cell c1 hr, hg.cell c2 hr⟩, Nat.lt_of_lt_of_le hl hg.size⟩
theorem grown_low {w X X' : World} {g B : Nat} (h : w.grownBy X (some g)) (hb : Below B X X') (hB : w.heap.size ≤ B) : w.grownBy X' (some g) :=
  ⟨hb.os.trans h.os, hb.tape.trans h.tape, hb.output.trans h.output, Nat.le_trans h.size hb.size, fun i hi hne => (hb.block i (Nat.lt_of_lt_of_le hi hB)).trans (h.block i hi hne)⟩

/-- What stands while a walk is drawn: the cursor, the steps so far. -/
def WO (w : World) (g : Nat) (l : List Int) (v : Value) (X : World) : Prop :=
  Cur X g ∧ w.grownBy X (some g) ∧ w.heap.size + 1 ≤ X.heap.size ∧ X.ownsRow (w.heap.size + 1) 3 1 v l.length (icells l)
section
variable {w X X' : World} {g M : Nat} {x y z : Int} {l : List Int} {v : Value}
theorem WO.below (h : WO w g l v X) (hb : Below X.heap.size X X') : WO w g l v X' := by
  obtain ⟨h1, h2, h4, h5⟩ := h
  exact ⟨h1.kept hb h1.lt, grown_below h2 hb, Nat.le_trans h4 hb.size, own_call h5 hb⟩
theorem WO.draw (h : WO w g l v X) (hlt : g < w.heap.size) (hc' : Cur X' g) (hg' : X.grownBy X' (some g)) : WO w g l v X' := by
  obtain ⟨h1, h2, h4, h5⟩ := h
  refine ⟨hc', only_trans h2 hg', Nat.le_trans h4 hg'.size, h5.kept hg' ?_⟩
  rcases h5.2 with ⟨rfl, _⟩ | ⟨q, cap, cur, rfl, hq, _⟩
  · exact .inl rfl
  · exact .inr fun e => by simp [Value.ownBlock] at e; omega
theorem WO.app {gg cap : Nat} {o : Obj} {u : Int} (h : WO w g l v X) (hlt : g < w.heap.size)
    (ho : X'.ownsRow (w.heap.size + 1) 3 1 (.slice (some ⟨gg, 0, none⟩) (l.length + 1) cap) (l.length + 1) (icells l ++ icells [u])) (hgr : (X.alloc o).grownBy X' v.ownBlock) :
    WO w g (l ++ [u]) (.slice (some ⟨gg, 0, none⟩) (l.length + 1) cap) X' := by
  obtain ⟨h1, h2, h4, h5⟩ := h
  have hb : Below (w.heap.size + 1) X X' := below_app (Below.refl _ _) (Nat.le_refl _) h4 h5 hgr
  refine ⟨h1.kept hb (by omega), grown_low h2 hb (Nat.le_succ _), Nat.le_trans h4 hb.size, ?_⟩
  rw [List.length_append, icells_append]; exact ho
/-- And the maze. -/
def WT (w : World) (g M : Nat) (x y z : Int) (l : List Int) (v : Value) (X : World) : Prop := WO w g l v X ∧ MBox M x y z X ∧ v.ownBlock ≠ some M ∧ g < M
theorem WT.below (h : WT w g M x y z l v X) (hb : Below X.heap.size X X') : WT w g M x y z l v X' := ⟨h.1.below hb, h.2.1.call hb, h.2.2⟩
theorem WT.draw (h : WT w g M x y z l v X) (hlt : g < w.heap.size) (hc' : Cur X' g) (hg' : X.grownBy X' (some g)) : WT w g M x y z l v X' :=
  ⟨h.1.draw hlt hc' hg', mbox_grown h.2.1 hg' (by have := h.2.2.2; omega), h.2.2⟩
theorem WT.app {gg cap : Nat} {o : Obj} {u : Int} (h : WT w g M x y z l v X) (hlt : g < w.heap.size)
    (ho : X'.ownsRow (w.heap.size + 1) 3 1 (.slice (some ⟨gg, 0, none⟩) (l.length + 1) cap) (l.length + 1) (icells l ++ icells [u])) (hgr : (X.alloc o).grownBy X' v.ownBlock) (hat : v.ownBlock = some gg ∨ gg = X.heap.size + 1) :
    WT w g M x y z (l ++ [u]) (.slice (some ⟨gg, 0, none⟩) (l.length + 1) cap) X' := by
  obtain ⟨h1, h2, h3, h4⟩ := h
  refine ⟨h1.app hlt ho hgr, mbox_row h2 hgr h3, fun e => ?_, h4⟩
  have e : gg = M := Option.some.inj e
  subst e
  rcases hat with h' | h'
  · exact h3 h'
  · have := h2.2; omega
theorem wt_new (h : WO w g l v X) (hlt : g < w.heap.size) (T : TypeId) : WT w g X.heap.size x y z l v (X.alloc (.cells #[.int .i64 x, .int .i64 y, .int .i64 z] T)) :=
  ⟨h.below (below_box _ _), mbox_new x y z X T, fun e => by have := own_lt h.2.2.2 _ e; omega, by have := h.2.2.1; omega⟩
theorem wo_start (hc : Cur w g) (T : TypeId) : WO w g [] (.slice (some ⟨w.heap.size + 1, 0, none⟩) 0 0) ((w.alloc (.cells #[.int .i64 x, .int .i64 y] T)).alloc (.cells #[] 3)) := by
  refine ⟨(hc.alloc1 _).alloc1 _, only_alloc1 (only_alloc1 (World.grownBy.refl w _) _) _, by simp, ?_⟩
  have := World.ownsRow_lit (base := w.heap.size + 1) (e := 3) (size := 1) (w.alloc (.cells #[.int .i64 x, .int .i64 y] T)) #[] 0 (by simp) (by decide) rfl
  simpa [icells] using this
end

/-- A walk is drawn with the cursor. -/
def DrawnW (x y a : Int) (g : Nat) (w : World) (e : Ending) (w' : World) : Prop := ∃ (l : List Int) (v : Value), (l.length ≤ 120 ∧ 0 ≤ wkZ x y (topZ x y) l a) ∧ e = .returned v ∧ w'.ownsRow w.heap.size 3 1 v l.length (icells l) ∧ Cur w' g ∧ w.grownBy w' (some g)
theorem drawnW_mk {x y a : Int} {g : Nat} {w X : World} {l : List Int} {v : Value} (h1 : l.length ≤ 120) (h2 : 0 ≤ wkZ x y (topZ x y) l a) (h : WO w g l v X) : DrawnW x y a g w (.returned v) X :=
  ⟨l, v, ⟨h1, h2⟩, rfl, own_base h.2.2.2 (Nat.le_succ _), h.1, h.2.1⟩

set_option maxRecDepth 100000 in
set_option maxHeartbeats 1000000 in
theorem way_any (g : Nat) (x y a : Int) (w : World) (hc : Cur w g) (ha : 0 ≤ a) (hk : OkZ x y) :
    Calls Try.prog 31 #[.pointer (some ⟨g, 0, none⟩), .agg #[.int .i64 x, .int .i64 y], .int .i64 a] w (DrawnW x y a g w) := by
  obtain ⟨i0, hi0, hz0, hz1, hz2⟩ := info_parts info_int
  have hlt := hc.lt
  have HK := @Lib.hid _ (fun X l v a1 a2 a3 => @drawnW_mk x y a g w X l v a1 a2 a3)
  have HS0 := Lib.hid (@wo_start w g x y hc 25)
  have HBx := Lib.hid ((box_new x y w 25).call (below_box _ (.cells #[] 3)))
  have HF : Hid (∀ X, Calls Try.prog 13 #[.agg #[.int .i64 x, .int .i64 y]] X (Mz x y (topZ x y) X)) := fun X => mazeS.fullMaze_yes x y X hk.1 hk.2.1 hk.2.2.1 hk.2.2.2
  have HWf := Lib.hid (fun c X => mazeS.waysFrom_any x y (topZ x y) c X)
  have HSt := Lib.hid (fun c d X => mazeS.step_any x y (topZ x y) c d X)
  clear hc hk
  generalize topZ x y = z at *
  obtain ⟨b0, b1⟩ := HBx.out.1
  go_enter Try.func31, Try.ntmps31
  go_wp2_with fail
  refine (HF.out _).mono ?_
  rintro e w1 ⟨rfl, hb⟩
  have hs1 := Lib.hid (HS0.out.below hb)
  clear hb HS0 HBx b0 b1 HF
  have hs2 := Lib.hid (wt_new (x := x) (y := y) (z := z) hs1.out hlt 30)
  go_wp2_with fail
  generalize w1.alloc (.cells #[.int .i64 x, .int .i64 y, .int .i64 z] 30) = w2 at *
  generalize w1.heap.size = M at *
  clear hs1
  refine (below_any g 20 _ hs2.out.1.1 (by omega) (by omega)).mono ?_
  rintro e w3 ⟨x0, hx0, rfl, hc3, hg3⟩
  have hx20 : x0 < 20 := by omega
  have hs3 := Lib.hid (hs2.out.draw hlt hc3 hg3)
  have hs4 := Lib.hid (hs3.out.below (below_box w3 (.cells #[.int .i64 120, .int .i64 120, .int .i64 60, .int .i64 (x0 : Int)] 3)))
  have hlt3 := hs3.out.1.1.lt
  clear hc3 hg3 hs2 hs3
  go_wp2_with fail
  refine (pickInt_all (fun z => 0 ≤ z ∧ z ≤ 120) g w3.heap.size 4 [120, 120, 60, (x0 : Int)] _ hs4.out.1.1 (by omega) (by omega) (by omega) (by simp) ?_ (fun k hk => four_in hx20 k hk)).mono ?_
  · exact fun k hk => four_cells _ _ _ rfl _ k hk
  rintro e w5 ⟨nz, hnz0, rfl, hc5, hg5⟩
  have hs5 := Lib.hid (hs4.out.draw hlt hc5 hg5)
  obtain ⟨hnz, hnz2⟩ := hnz0
  obtain ⟨n, rfl⟩ := Int.eq_ofNat_of_zero_le hnz
  clear hc5 hg5 hs4 hlt3 hx0 hx20
  go_wp2_with fail
  go_loopw [2, 7, 10] (fun u2 u7 u10 wr => ∃ (k : Nat) (l : List Int), k ≤ n ∧ l.length ≤ k ∧ u10 = .int .i64 (k : Int) ∧ u2 = .int .i64 (wkZ x y z l a) ∧ 0 ≤ wkZ x y z l a ∧ WT w g M x y z l u7 wr) (fun _ _ u10 _ => n - (intOf u10).toNat)
  case atStart => exact ⟨0, [], Nat.zero_le _, Nat.le_refl _, rfl, rfl, ha, hs5.out⟩
  case round =>
    clear hs5
    obtain ⟨k, l, hk, hlk, rfl, rfl, hp, hws0⟩ := hrel
    have hws := Lib.hid hws0
    obtain ⟨A7, c7, rfl⟩ := own_form hws0.1.2.2.2
    obtain ⟨m0, m1, m2⟩ := hws0.2.1.1
    have hl11 : l.length ≤ 120 := by omega
    have hsz := hws0.1.2.2.1
    clear hws0
    by_cases hkn : k < n
    · have hk0 : (0 : Int) ≤ (k : Int) := Int.natCast_nonneg _
      have hk1 : (k : Int) < (n : Int) := by omega
      have HMem := Lib.hid (fun d hd => (wl_mem (w := x) (h := y) (o := z) (k := wkZ x y z l a) 4 d hd).2)
      have HSn := Lib.hid (fun d => @wkZ_snoc x y z l a d ha hp)
      have HP := Lib.hid hp
      have HWc := Lib.hid (fun X => HWf.out (wkZ x y z l a) X)
      have HSc := Lib.hid (fun d X => HSt.out (wkZ x y z l a) d X)
      have hl4 : (wlZ x y z (wkZ x y z l a)).length ≤ 4 := wlN_len _ _ _ _ 4
      change Hid (∀ d, d ∈ wlZ x y z (wkZ x y z l a) → _) at HMem
      clear hp
      generalize hcc : wkZ x y z l a = cc at *
      generalize wlZ x y z cc = L at *
      go_wp2_with fail
      refine (HWc.out _).mono ?_
      rintro e w2 ⟨v2, rfl, ho, hb⟩
      have hs2 := Lib.hid (hws.out.below hb)
      have hwo := Lib.hid ho
      obtain ⟨A2, c2, rfl⟩ := own_form ho
      clear ho hb hws m0 m1 m2
      by_cases hL : L.length = 0
      · have hL0 : ((L.length : Int) == 0) = true := by simp [hL]
        go_wp2_with fail
        go_ret
        exact HK.out _ _ _ hl11 (by rw [hcc]; exact HP.out) hs2.out.1
      · have hL0 : ((L.length : Int) == 0) = false := beq_eq_false_iff_ne.2 (by omega)
        obtain ⟨q, cq, hqe, hq1, hq2⟩ := own_some hwo.out (by omega)
        cases hqe
        have hglt := hlt
        go_wp2_with fail
        refine (below_any g (L.length : Int) _ hs2.out.1.1 (by omega) (by omega)).mono ?_
        rintro e w3 ⟨r, hr, rfl, hc3, hg3⟩
        have hs3 := Lib.hid (hs2.out.draw hlt hc3 hg3)
        have hwo3 := Lib.hid (hwo.out.kept hg3 (.inr fun e => by simp [Value.ownBlock] at e; omega))
        have hrl : r < L.length := by omega
        obtain ⟨d, hd⟩ : ∃ d, L[r]? = some d := ⟨L[r], List.getElem?_eq_getElem hrl⟩
        have hcd := own_cellI hwo3.out hd
        have hdm := HMem.out d (List.mem_of_getElem? hd)
        have HSd := Lib.hid (fun X => HSc.out d X)
        have HSn2 := Lib.hid (HSn.out d)
        have hr0 : (0 : Int) ≤ (r : Int) := Int.natCast_nonneg _
        have hsz3 := hs3.out.1.2.2.1
        clear hd hc3 hg3 hs2 hwo hq1 hq2 hL HSc HMem HSn
        generalize stZ x y z cc d = s at *
        go_wp2_with (at_builtin; refine wpList_append_lies _ rfl (.tmp 39) (.tmp 41) 26 rfl (w.heap.size + 1) 3 i0 _ 1 8 Try.underlying26 hi0 hz0 hz1 hz2 rfl (by omega) _ l.length _ rfl (hs3.out.1.2.2.2.alloc _) ⟨w3.heap.size, 0, none⟩ 1 1 (icells [d]) rfl rfl (news_eqI rfl (heap_alloc_new w3 _)) (oneCellI _) (by omega) (by unfold maxLen; omega) (by omega) (by simp; omega) (w3.heap.size + 1) (by simp) ?_; intro gg cap w4 hown' hgrow hat hlt2; clear hlt2; have hs4 := Lib.hid (hs3.out.app hlt hown' hgrow hat); clear hown' hgrow hat; obtain ⟨m0, m1, m2⟩ := hs4.out.2.1.1)
        refine (HSd.out _).mono ?_
        rintro e w5 ⟨rfl, hb⟩
        have hs5 := Lib.hid (hs4.out.below hb)
        clear hb hs4 m0 m1 m2 hcd
        go_wp2_with fail
        go_roundw
        case rel => exact ⟨k + 1, l ++ [d], by omega, by simp; omega, by go_num, by rw [HSn2.out], by rw [HSn2.out]; exact hdm, by simpa using hs5.out⟩
        case measure => simp [intOf]; omega
    · obtain rfl : k = n := by omega
      go_wp2_with fail
      go_ret
      exact HK.out _ _ _ hl11 hp hws.out.1

/-- A grid, a cell and a walk from the cell through the full grid are drawn from a code. -/
def TourDrawn (w : World) (e : Ending) (w' : World) : Prop := ∃ (x y a : Int) (l : List Int) (v : Value), (twB x y a l = true ∧ l.length ≤ 120) ∧ e = .returned (.tuple #[.agg #[.int .i64 x, .int .i64 y], .int .i64 a, v]) ∧ w'.ownsRow w.heap.size 3 1 v l.length (icells l) ∧ Below w.heap.size w w'
theorem tw_mk {x y a : Int} {l : List Int} (hk : OkZ x y) (ha : 0 ≤ a ∧ a < x * y) (h1 : l.length ≤ 120) (h2 : 0 ≤ wkZ x y (topZ x y) l a) : twB x y a l = true := by
  obtain ⟨e1, e2, e3⟩ := fm_is hk
  unfold twB
  rw [e1, e2, e3]
  have hv : OkM x y (topZ x y) := by
    refine ⟨hk, ?_, Int.le_refl _⟩
    unfold topZ
    have : (1 : Int) ≤ 2 ^ (gpsZ x y).toNat := by
      have h := Nat.pow_pos (n := (gpsZ x y).toNat) (show 0 < 2 by decide)
      have : (2 : Int) ^ (gpsZ x y).toNat = ((2 ^ (gpsZ x y).toNat : Nat) : Int) := by norm_cast
      omega
    omega
  have hh : hasB x y (topZ x y) a = true := decide_eq_true ⟨hv, ha.1, ha.2⟩
  unfold wwB
  rw [hh, decide_eq_true (show l.length ≤ 400 by omega), decide_eq_true h2]; rfl
theorem tourDrawn_mk {w X Y : World} {x y a : Int} {l : List Int} {v : Value} {B : Nat} (hk : OkZ x y) (ha : 0 ≤ a ∧ a < x * y) (h1 : l.length ≤ 120) (h2 : 0 ≤ wkZ x y (topZ x y) l a) (hB : w.heap.size < B) (ho : X.ownsRow B 3 1 v l.length (icells l)) (hb : Below w.heap.size w X)
    (hY : Y = (X.setCell ⟨w.heap.size, 0, none⟩ (.int .i64 x)).setCell ⟨w.heap.size, 1, none⟩ (.int .i64 y)) : TourDrawn w (.returned (.tuple #[.agg #[.int .i64 x, .int .i64 y], .int .i64 a, v])) Y := by
  subst hY
  exact ⟨x, y, a, l, v, ⟨tw_mk hk ha h1 h2, h1⟩, rfl, own_base (own_set (own_set ho (p := ⟨w.heap.size, 0, none⟩) hB _) (p := ⟨w.heap.size, 1, none⟩) hB _) (Nat.le_of_lt hB), (hb.setCell (Nat.le_refl _) _).setCell (Nat.le_refl _) _⟩

set_option maxRecDepth 100000 in
set_option maxHeartbeats 1000000 in
theorem drawTour_any (A : Option Addr) (n c : Nat) (w : World) (hn : n ≤ maxLen) (hb : BytesIn w w.heap.size A n) :
    Calls Try.prog 9 #[.slice A n c] w (TourDrawn w) := by
  have HK := @Lib.hid _ (fun X Y x y a l v B h1 h2 h3 h4 h5 h6 h7 h8 => @tourDrawn_mk w X Y x y a l v B h1 h2 h3 h4 h5 h6 h7 h8)
  have HB := Lib.hid ((Below.refl w.heap.size w).alloc (Nat.le_refl _) (.cells #[.int .i64 0, .int .i64 0] 25))
  have HY := Lib.hid ((hb.keep (w' := w.alloc (.cells #[.int .i64 0, .int .i64 0] 25)) fun p hp => HB.out.cell hp).more (B' := w.heap.size + 1) (by omega))
  clear hb
  go_enter Try.func9, Try.ntmps9
  go_wp2_with fail
  refine (new_any A n c _ hn (by simpa using HY.out)).mono ?_
  rintro e w1 ⟨rfl, hc1, hb1, hs1⟩
  have HR1 := Lib.hid (Row2.call (row2_new 0 0 w _) hb1)
  have HB1 := Lib.hid (HB.out.trans (hb1.mono (by simp)))
  have hz : w1.heap.size = w.heap.size + 2 := by simp at hs1; omega
  have hz1 : w.heap.size + 2 ≤ w1.heap.size := by omega
  clear hs1 hb1 hz HB HY
  go_wp2_with fail
  refine (grid_any _ _ (by simpa using hc1)).mono ?_
  rintro e w2 ⟨x, y, hv, rfl, hc2, hg2⟩
  have HR2 := Lib.hid (row2_grown HR1.out hg2 (fun e => by have := Option.some.inj e; omega))
  have HB2 := Lib.hid (HB1.out.grown hg2 (by omega) (fun k hk => by cases hk; omega))
  have hz2 := Nat.le_trans hz1 hg2.size
  have HR3 := Lib.hid (HR2.out.call (below_box w2 (.cells #[.int .i64 x, .int .i64 y] 25)))
  have HB3 := Lib.hid (HB2.out.alloc (by omega) (.cells #[.int .i64 x, .int .i64 y] 25))
  have hc3 := Lib.hid (hc2.alloc1 (.cells #[.int .i64 x, .int .i64 y] 25))
  have hm3 := Lib.hid (row2_new x y w2 25)
  have HV := Lib.hid hv
  have HC := Lib.hid (fun X => gridS.countCells_yes x y X hv.1 hv.2.1 hv.2.2.1 hv.2.2.2)
  obtain ⟨n1, n2, n3⟩ := nn2 hv
  rw [n1] at HC
  have HN := Lib.hid n1
  clear hg2 hc1 hc2 hv HR1 HB1 HR2 HB2 n1 hz1
  generalize cN x y = N at *
  go_wp2_with fail
  generalize w2.alloc (.cells #[.int .i64 x, .int .i64 y] 25) = w3 at *
  generalize hM : w2.heap.size = M at *
  obtain ⟨⟨m0, m1⟩, -⟩ := row2_cells hm3.out
  go_wp2_with fail
  refine (HC.out _).mono ?_
  rintro e w4 ⟨rfl, hb⟩
  have HR4 := Lib.hid (HR3.out.call hb)
  have HB4 := Lib.hid (below_call HB3.out hb)
  have hc4 := Lib.hid (hc3.out.kept hb hc3.out.lt)
  have hm4 := Lib.hid (hm3.out.call hb)
  clear hb HR3 HB3 hc3 hm3 m0 m1 HC
  go_wp2_with fail
  refine (below_any _ (N : Int) _ hc4.out (by omega) (by omega)).mono ?_
  rintro e w5 ⟨a, ha, rfl, hc5', hg5⟩
  have HR5 := Lib.hid (row2_grown HR4.out hg5 (fun e => by have := Option.some.inj e; omega))
  have HB5 := Lib.hid (HB4.out.grown hg5 HB4.out.size (fun k hk => by cases hk; omega))
  have hm5 := Lib.hid (row2_grown hm4.out hg5 (fun e => by have := Option.some.inj e; omega))
  have hc5 := Lib.hid hc5'
  have HA := Lib.hid ha
  obtain ⟨⟨m0, m1⟩, -⟩ := row2_cells hm5.out
  have hl5 := hc5'.lt
  have hneM : M ≠ w.heap.size := by omega
  have hdz : w5.drew.heap.size = w5.heap.size := rfl
  have HWy := Lib.hid (fun X h => way_any (w.heap.size + 1) x y a X h (by omega) HV.out)
  clear hg5 hc5' ha HR4 HB4 hc4 hm4
  go_wp2_with fail
  try simp only [List.cons_append, List.nil_append, List.append_eq]
  refine wp_region_held_drew (S := (fun w' => w'.cell? ⟨M, 0, none⟩ = some (.int .i64 x) ∧ w'.cell? ⟨M, 1, none⟩ = some (.int .i64 y))) (by kernel_rfl) ?_ (fun hHeld0 => ?_)
  · (try dsimp only); go_keep
  refine wpAnyH_take (i := 0) (oi := { dst := some 16, op := Go.Op.load 25 (Go.Operand.tmp 6), type := 25, pos := "l16_entry.go:104", after := #[], guard := none }) (v := ?_) rfl (by kernel_rfl) (by kernel_rfl) (by kernel_rfl) (fun _ _ _ h => h) (Or.inl ⟨by rfl, ?_⟩) (by assumption) ?_
  rotate_left
  · (intro w hSw; (try dsimp only at hSw); go_simp; try with_reducible rfl)
  try simp only [Act.put, List.setIfInBounds_toArray, List.set_cons_zero, List.set_cons_succ]
  refine wpAnyH_take (i := 1) (oi := { dst := some 17, op := Go.Op.move (Go.Operand.tmp 7), type := 3, pos := "l16_entry.go:104", after := #[{ on := 6, ground := Go.Ground.gcOnly Go.Departure.lateStores }], guard := none }) (v := ?_) rfl (by kernel_rfl) (by kernel_rfl) (by kernel_rfl) (fun _ _ _ h => h) (Or.inl ⟨by rfl, ?_⟩) (by assumption) ?_
  rotate_left
  · (intro w hSw; (try dsimp only at hSw); go_simp; try with_reducible rfl)
  try simp only [Act.put, List.setIfInBounds_toArray, List.set_cons_zero, List.set_cons_succ]
  refine wpAnyH_take (i := 2) (oi := { dst := some 18, op := Go.Op.move (Go.Operand.tmp 5), type := 47, pos := "l16_entry.go:104", after := #[], guard := none }) (v := ?_) rfl (by kernel_rfl) (by kernel_rfl) (by kernel_rfl) (fun _ _ _ h => h) (Or.inl ⟨by rfl, ?_⟩) (by assumption) ?_
  rotate_left
  · (intro w hSw; (try dsimp only at hSw); go_simp; try with_reducible rfl)
  try simp only [Act.put, List.setIfInBounds_toArray, List.set_cons_zero, List.set_cons_succ]
  refine wpAnyH_take (i := 3) (oi := { dst := some 19, op := Go.Op.load 25 (Go.Operand.tmp 6), type := 25, pos := "l16_entry.go:104", after := #[], guard := none }) (v := ?_) rfl (by kernel_rfl) (by kernel_rfl) (by kernel_rfl) (fun _ _ _ h => h) (Or.inl ⟨by rfl, ?_⟩) (by assumption) ?_
  rotate_left
  · (intro w hSw; (try dsimp only at hSw); go_simp; try with_reducible rfl)
  try simp only [Act.put, List.setIfInBounds_toArray, List.set_cons_zero, List.set_cons_succ]
  refine wpAnyH_take (i := 4) (oi := { dst := some 20, op := Go.Op.move (Go.Operand.tmp 7), type := 3, pos := "l16_entry.go:104", after := #[], guard := none }) (v := ?_) rfl (by kernel_rfl) (by kernel_rfl) (by kernel_rfl) (fun _ _ _ h => h) (Or.inl ⟨by rfl, ?_⟩) (by assumption) ?_
  rotate_left
  · (intro w hSw; (try dsimp only at hSw); go_simp; try with_reducible rfl)
  try simp only [Act.put, List.setIfInBounds_toArray, List.set_cons_zero, List.set_cons_succ]
  refine wpAnyH_ready (rs := [5]) (by kernel_rfl) (by simp) ?_
  refine AllReadyH.cons (o := { dst := some 21, op := Go.Op.call { callee := Go.Callee.value (Go.Operand.func 31), args := #[Go.Operand.tmp 18, Go.Operand.tmp 19, Go.Operand.tmp 20], argTypes := #[47, 25, 3] }, type := 26, pos := "l16_entry.go:104", after := #[{ on := 2, ground := Go.Ground.data }, { on := 3, ground := Go.Ground.data }, { on := 4, ground := Go.Ground.data }], guard := none }) rfl (fun K5 hK5 => ?_) AllReadyH.nil
  go_simp
  (refine (HWy.out w5.drew (hc5.out.kept (B := w5.heap.size) ⟨rfl, rfl, rfl, Nat.le_refl _, fun _ _ => rfl⟩ hl5)).mono ?_; rintro e w6 ⟨l, v, hlw, rfl, ho, hc6, hg6⟩; have HR6 := Lib.hid (row2_grown (Row2.call (X' := w5.drew) HR5.out ⟨rfl, rfl, rfl, Nat.le_refl _, fun _ _ => rfl⟩) hg6 (fun e => by have := Option.some.inj e; omega)); have HB6 := Lib.hid ((below_dr HB5.out).grown hg6 HB5.out.size (fun k hk => by cases hk; omega)); have hm6 := Lib.hid (row2_grown (Row2.call (X' := w5.drew) hm5.out ⟨rfl, rfl, rfl, Nat.le_refl _, fun _ _ => rfl⟩) hg6 (fun e => by have := Option.some.inj e; omega)); have HO := Lib.hid ho; have HL := Lib.hid hlw; obtain ⟨A6, c6, rfl⟩ := own_form ho; obtain ⟨⟨k0, k1⟩, -⟩ := row2_cells hm6.out; obtain ⟨⟨c0, c1⟩, f0, f1⟩ := row2_cells HR6.out; clear hg6 hc6 ho hlw)
  go_wp2_with fail
  refine hK5.out _ _ ?_ (fun hHeld1 => ?_)
  · (try dsimp only); go_keep
  clear hK5 K5 hHeld0
  try simp only [Act.put, List.setIfInBounds_toArray, List.set_cons_zero, List.set_cons_succ]
  refine wpAnyH_ready (rs := [6]) (by kernel_rfl) (by simp) ?_
  refine AllReadyH.cons (o := { dst := none, op := Go.Op.store 25 (Go.Operand.tmp 2) (Go.Operand.tmp 16), type := 0, pos := "l16_entry.go:104", after := #[{ on := 0, ground := Go.Ground.data }, { on := 5, ground := Go.Ground.chain }, { on := 0, ground := Go.Ground.phase }, { on := 1, ground := Go.Ground.textOnly Go.Departure.lateStores }, { on := 2, ground := Go.Ground.textOnly Go.Departure.lateStores }, { on := 3, ground := Go.Ground.textOnly Go.Departure.lateStores }, { on := 4, ground := Go.Ground.textOnly Go.Departure.lateStores }, { on := 5, ground := Go.Ground.textOnly Go.Departure.lateStoresUnsure }], guard := none }) rfl (fun K6 hK6 => ?_) AllReadyH.nil
  go_simp
  refine hK6.out _ _ ?_ (fun hHeld2 => ?_)
  · (try dsimp only); exact ⟨set1_keep (set1_keep k0 hneM) hneM, set1_keep (set1_keep k1 hneM) hneM⟩
  clear hK6 K6 hHeld1
  try simp only [Act.put, List.setIfInBounds_toArray, List.set_cons_zero, List.set_cons_succ]
  refine wpAnyH_take (i := 7) (oi := { dst := some 3, op := Go.Op.assign (Go.Operand.tmp 17), type := 3, pos := "l16_entry.go:104", after := #[{ on := 1, ground := Go.Ground.data }, { on := 6, ground := Go.Ground.chain }, { on := 0, ground := Go.Ground.phase }, { on := 1, ground := Go.Ground.phase }, { on := 2, ground := Go.Ground.textOnly Go.Departure.lateStores }, { on := 3, ground := Go.Ground.textOnly Go.Departure.lateStores }, { on := 4, ground := Go.Ground.textOnly Go.Departure.lateStores }, { on := 5, ground := Go.Ground.textOnly Go.Departure.lateStoresUnsure }, { on := 6, ground := Go.Ground.phase }], guard := none }) (v := ?_) rfl (by kernel_rfl) (by kernel_rfl) (by kernel_rfl) (fun _ _ _ h => h) (Or.inl ⟨by rfl, ?_⟩) (by assumption) ?_
  rotate_left
  · (intro w hSw; (try dsimp only at hSw); go_simp; try with_reducible rfl)
  try simp only [Act.put, List.setIfInBounds_toArray, List.set_cons_zero, List.set_cons_succ]
  refine wpAnyH_take (i := 8) (oi := { dst := some 4, op := Go.Op.assign (Go.Operand.tmp 21), type := 26, pos := "l16_entry.go:104", after := #[{ on := 5, ground := Go.Ground.data }, { on := 7, ground := Go.Ground.chain }, { on := 0, ground := Go.Ground.phase }, { on := 1, ground := Go.Ground.phase }, { on := 2, ground := Go.Ground.phase }, { on := 3, ground := Go.Ground.phase }, { on := 4, ground := Go.Ground.phase }, { on := 5, ground := Go.Ground.phase }, { on := 6, ground := Go.Ground.phase }, { on := 7, ground := Go.Ground.phase }], guard := none }) (v := ?_) rfl (by kernel_rfl) (by kernel_rfl) (by kernel_rfl) (fun _ _ _ h => h) (Or.inl ⟨by rfl, ?_⟩) (by assumption) ?_
  rotate_left
  · (intro w hSw; (try dsimp only at hSw); go_simp; try with_reducible rfl)
  try simp only [Act.put, List.setIfInBounds_toArray, List.set_cons_zero, List.set_cons_succ]
  refine wpAnyH_done (by kernel_rfl) ?_ _
  go_wp2_with fail
  refine ret_set2 c0 c1 fun Y e0 e1 hY => ?_
  exact bodyPost_ret (v := .tuple #[.agg #[.int .i64 x, .int .i64 y], .int .i64 (a : Int), .slice A6 l.length c6]) (by simp [results, Try.results9, go_sem, e0, e1]) rfl (HK.out _ _ _ _ _ _ _ _ HV.out ⟨by omega, by have := HA.out; have := HN.out; omega⟩ HL.out.1 HL.out.2 (by omega) HO.out HB6.out hY)
end Go.Proofs.Ytgocbnnhhpmndaa.entD
