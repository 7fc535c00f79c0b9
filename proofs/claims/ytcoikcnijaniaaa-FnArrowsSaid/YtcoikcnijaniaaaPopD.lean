/- The draw of arrows and of orders. -/
import Derived.Test.YtcoikcnijaniaaaMatD
import Derived.Test.YtcoikcnijaniaaaPopP
namespace Go.Proofs.Ytcoikcnijaniaaa.popD
open Go.ChangeShapes Go.WideShapes Go.ChangeAt Go.RowKit
open draw gridP gridC gridE bitP mazeP mazeC mazeM mazeR mazeS intsP reachP reachM reachN reachD intA intK listK rowsP popP matD
open matD (DQ DR grown_low)
set_option linter.unusedVariables false

/-! ### plain -/
/-- The rows so far are in order. -/
def Rw (x y : Int) (ls : List (List Int)) : Prop := (0 < ls.length → (rwA ls 0).length = 0) ∧ ∀ j : Nat, j < ls.length → (rwA ls j).length ≤ 60 ∧ ∀ d ∈ rwA ls j, nbZ x y j d ≠ -1
theorem rw_old {ls : List (List Int)} {l : List Int} {j : Nat} (h : j < ls.length) : rwA (ls ++ [l]) j = rwA ls j := by
  unfold rwA
  rw [show ((j : Int)).toNat = j by simp, List.getElem?_append_left h]
theorem rw_new {ls : List (List Int)} {l : List Int} {j : Nat} (h : j = ls.length) : rwA (ls ++ [l]) j = l := by
  unfold rwA
  rw [show ((j : Int)).toNat = j by simp, List.getElem?_append_right (by omega), h, Nat.sub_self]; rfl
theorem Rw.snoc {x y : Int} {ls : List (List Int)} {l : List Int} (h : Rw x y ls) (h1 : l.length ≤ 60) (h2 : ∀ d ∈ l, nbZ x y (ls.length : Nat) d ≠ -1) (h3 : ls.length = 0 → l = []) : Rw x y (ls ++ [l]) := by
  refine ⟨fun _ => ?_, fun j hj => ?_⟩
  · rcases Nat.eq_zero_or_pos ls.length with e | e
    · rw [show (0 : Int) = ((0 : Nat) : Int) from rfl, rw_new e.symm, h3 e]; rfl
    · rw [show (0 : Int) = ((0 : Nat) : Int) from rfl, rw_old e]; exact h.1 e
  · rw [List.length_append] at hj
    simp at hj
    rcases Nat.lt_or_ge j ls.length with e | e
    · rw [rw_old e]; exact h.2 j e
    · obtain rfl : j = ls.length := by omega
      rw [rw_new rfl]; exact ⟨h1, h2⟩
theorem Rw.ao {x y : Int} {ls : List (List Int)} (h : Rw x y ls) (hk : OkZ x y) (hl : ls.length = cN x y) : Ao x y ls := by
  have hn : 1 ≤ cN x y := by
    have := (mul_bd x y hk.1 hk.2.1 hk.2.2.1 hk.2.2.2).1
    unfold cN; omega
  exact ⟨hk, hl, h.1 (by omega), fun k hk' => h.2 k hk'⟩
theorem ways_nb {x y o k : Int} : ∀ d ∈ wlZ x y o k, nbZ x y k d ≠ -1 := fun d hd => by
  have h := (mazeQ.wl_mem 4 d hd).2
  unfold stZ at h
  split at h <;> omega
theorem four_in {x : Nat} (hx : x < 12) (k : Nat) (hk : k < 4) : 0 ≤ ([30, 30, 30, (x : Int)] : List Int).getD k 0 ∧ ([30, 30, 30, (x : Int)] : List Int).getD k 0 ≤ 30 := by
  match k, hk with
  | 0, _ => simp
  | 1, _ => simp
  | 2, _ => simp
  | 3, _ => simp; omega
theorem four_cells (w : World) (B : Nat) (x : Int) (hB : w.heap.size = B) (T : TypeId) (k : Nat) (hk : k < 4) : (w.alloc (.cells #[.int .i64 30, .int .i64 30, .int .i64 30, .int .i64 x] T)).cell? ⟨B, k, none⟩ = some (.int .i64 (([30, 30, 30, x] : List Int).getD k 0)) := by
  subst hB
  rw [World.cell?_alloc_new]
  match k, hk with
  | 0, _ => rfl
  | 1, _ => rfl
  | 2, _ => rfl
  | 3, _ => rfl
theorem DR.call {w X X' : World} {g RB : Nat} {ls : List (List Int)} {l : List Int} {v r : Value} (h : DR w g ls v RB l r X) (hb : Below X.heap.size X X') : DR w g ls v RB l r X' :=
  ⟨h.1.kept hb h.1.lt, grown_low h.2.1 hb h.2.1.size, h.2.2.1.outside fun k a b hk => hb.block k hk, h.2.2.2.1, Nat.le_trans h.2.2.2.2.1 hb.size, own_call h.2.2.2.2.2 hb⟩
theorem box_in {w X : World} {b g : Nat} {x y : Int} (h : Box b x y w) (hg : w.grownBy X (some g)) (hne : b ≠ g) : Box b x y X := by
  obtain ⟨⟨c0, c1⟩, hl⟩ := h
  have hr : some b ≠ some g := fun e => hne (Option.some.inj e)
  exact ⟨⟨hg.cell c0 hr, hg.cell c1 hr⟩, Nat.lt_of_lt_of_le hl hg.size⟩
/-- .. with the ways of the cell beside. -/
def DW (w : World) (g : Nat) (ls : List (List Int)) (v : Value) (RB : Nat) (l : List Int) (r : Value) (wl : List Int) (gw cw : Nat) (X : World) : Prop :=
  DR w g ls v RB l r X ∧ X.ownsRow RB 3 1 (.slice (some ⟨gw, 0, none⟩) wl.length cw) wl.length (icells wl) ∧ r.ownBlock ≠ some gw
theorem DW.draw {w X X' : World} {g RB gw cw : Nat} {ls : List (List Int)} {l wl : List Int} {v r : Value} (h : DW w g ls v RB l r wl gw cw X) (hlt : g < w.heap.size) (hc : Cur X' g) (hg : X.grownBy X' (some g)) : DW w g ls v RB l r wl gw cw X' := by
  refine ⟨h.1.draw hlt hc hg, h.2.1.kept hg (.inr fun e => ?_), h.2.2⟩
  have := (h.2.1.lt gw rfl).1
  have h2 := h.1.2.2.2.1
  have := Option.some.inj e
  simp at this
  omega
theorem DW.app {w X X' : World} {g RB gg cap gw cw : Nat} {ls : List (List Int)} {l wl : List Int} {v r : Value} {o : Obj} {u : Int} (h : DW w g ls v RB l r wl gw cw X) (hlt : g < w.heap.size)
    (ho : X'.ownsRow RB 3 1 (.slice (some ⟨gg, 0, none⟩) (l.length + 1) cap) (l.length + 1) (icells l ++ icells [u])) (hg : (X.alloc o).grownBy X' r.ownBlock) (hat : r.ownBlock = some gg ∨ gg = X.heap.size + 1) : DW w g ls v RB (l ++ [u]) (.slice (some ⟨gg, 0, none⟩) (l.length + 1) cap) wl gw cw X' := by
  refine ⟨h.1.app hlt ho hg, (h.2.1.alloc o).kept hg (.inr fun e => h.2.2 (by rw [← e]; rfl)), fun e => ?_⟩
  have e : gg = gw := Option.some.inj e
  subst e
  rcases hat with h' | h'
  · exact h.2.2 h'
  · have := (h.2.1.lt gg rfl).2; omega
/-- Arrows are drawn. -/
def DrawnA (g : Nat) (x y : Int) (w : World) (e : Ending) (w' : World) : Prop := ∃ ls v, Ao x y ls ∧ e = .returned v ∧ Cur w' g ∧ w.grownBy w' (some g) ∧ MxOw w' w.heap.size w'.heap.size v ls
theorem drawnA_mk {g : Nat} {x y : Int} {w W1 w' : World} {ls : List (List Int)} {v : Value} (hA : Ao x y ls) (hw : w.grownBy w' (some g)) (hz : w.heap.size ≤ W1.heap.size) (hd : DQ W1 g ls v w') : DrawnA g x y w (.returned v) w' :=
  ⟨ls, v, hA, rfl, hd.1, hw, hd.2.2.low hz⟩

set_option maxRecDepth 100000 in
set_option maxHeartbeats 8000000 in
theorem arrows_any (g : Nat) (x y : Int) (w : World) (hc : Cur w g) (hk : OkZ x y) :
    Calls Try.prog 57 #[.pointer (some ⟨g, 0, none⟩), .agg #[.int .i64 x, .int .i64 y]] w (DrawnA g x y w) := by
  obtain ⟨j0, hj0, hy0, hy1, hy2⟩ := info_parts info_row
  obtain ⟨i0, hi0, hz0, hz1, hz2⟩ := info_parts info_int
  have hlt0 := hc.lt
  have HC : Hid (∀ X, Calls Try.prog 11 #[.agg #[.int .i64 x, .int .i64 y]] X (Nm (x * y) X)) := fun X => gridS.countCells_yes x y X hk.1 hk.2.1 hk.2.2.1 hk.2.2.2
  have hN : x * y = (cN x y : Int) ∧ 1 ≤ cN x y ∧ cN x y ≤ 16 := by
    have := (mul_bd x y hk.1 hk.2.1 hk.2.2.1 hk.2.2.2).1
    unfold cN; omega
  rw [hN.1] at HC
  have HF : Hid (∀ X, Calls Try.prog 90 #[.agg #[.int .i64 x, .int .i64 y]] X (Mz x y (topZ x y) X)) := fun X => mazeS.fullMaze_yes x y X hk.1 hk.2.1 hk.2.2.1 hk.2.2.2
  have HWs := Lib.hid (fun k X => mazeS.waysFrom_any x y (topZ x y) k X)
  have Hk := Lib.hid hk
  have HNN : Hid (∃ N, cN x y = N) := Lib.hid ⟨_, rfl⟩
  obtain ⟨W1, hW1⟩ : ∃ W1, W1 = w.alloc (.cells #[.int .i64 x, .int .i64 y] 25) := ⟨_, rfl⟩
  have hz1' : W1.heap.size = w.heap.size + 1 := by rw [hW1]; simp
  have hbx : Box w.heap.size x y W1 := by rw [hW1]; exact box_new x y w _
  have hc1 : Cur W1 g := by rw [hW1]; exact hc.alloc1 _
  have hw1 : w.grownBy W1 (some g) := by rw [hW1]; exact only_alloc1 (World.grownBy.refl w (some g)) _
  have hlt : g < W1.heap.size := by omega
  have hne : w.heap.size ≠ g := by omega
  have HBx := Lib.hid (fun X (h : W1.grownBy X (some g)) => (box_in hbx h hne).1)
  have HK := @Lib.hid _ (fun (w' : World) v ls (a : Ao x y ls) (d : DQ W1 g ls v w') => @drawnA_mk g x y w W1 w' ls v a (only_trans hw1 d.2.1) (by omega) d)
  have hd0 : Hid (DQ W1 g [] (.slice (some ⟨w.heap.size + 1, 0, none⟩) 0 0) (W1.alloc (.cells #[] 32))) := Lib.hid (by rw [← hz1']; exact ⟨hc1.alloc1 _, only_alloc1 (World.grownBy.refl W1 (some g)) _, (ml_new (Below.refl W1.heap.size W1) (Nat.le_refl _)).2.2.2⟩)
  obtain ⟨-, hN1, hN16⟩ := hN
  have HW1 := Lib.hid hW1
  clear hc hk hbx hc1 hw1 HNN hz1' hW1
  generalize hNN : cN x y = N at *
  have HNe := Lib.hid hNN
  clear hNN
  go_enter Try.func57, Try.ntmps57
  go_wp2_with fail
  rw [← HW1.out]
  go_loopw [5, 6] (fun u5 u6 wr => ∃ k : Nat, k ≤ N ∧ u6 = .int .i64 k ∧ ∃ ls : List (List Int), ls.length = k ∧ Rw x y ls ∧ DQ W1 g ls u5 wr) (fun _ u6 _ => N - (intOf u6).toNat)
  case atStart => exact ⟨0, Nat.zero_le _, rfl, [], rfl, ⟨fun h => absurd h (by simp), fun j hj => absurd hj (by simp)⟩, hd0.out⟩
  case round =>
    clear hd0
    obtain ⟨k, hk, rfl, ls, hli0, hrw, hd⟩ := hrel
    have Hd := Lib.hid hd
    have Hli := Lib.hid hli0
    have Hrw := Lib.hid hrw
    obtain ⟨c0, c1⟩ := HBx.out _ hd.2.1
    clear hd hli0 hrw
    have hk0 : (0 : Int) ≤ (k : Int) := Int.natCast_nonneg _
    go_wp2_with fail
    refine (HC.out _).mono ?_
    rintro e w1 ⟨rfl, hb⟩
    have Hd1 : Hid (DQ W1 g ls u5 w1) := Lib.hid ⟨Hd.out.1.kept hb Hd.out.1.lt, grown_low Hd.out.2.1 hb Hd.out.2.1.size, Hd.out.2.2.grow hb⟩
    clear hb Hd c0 c1
    by_cases hkN : k < N
    · have hk1 : (k : Int) < (N : Int) := by omega
      have hdk : decide ((k : Int) < (N : Int)) = true := decide_eq_true hk1
      have Hr0 := Lib.hid Hd1.out.new
      clear Hd1
      go_wp2_with fail
      obtain ⟨RB, hRB⟩ : ∃ RB, RB = w1.heap.size := ⟨_, rfl⟩
      rw [← hRB] at Hr0 ⊢
      clear hRB
      generalize w1.alloc (.cells #[] 3) = w1' at *
      refine (below_any g 12 _ Hr0.out.1 (by decide) (by decide)).mono ?_
      rintro e w2 ⟨x0, hx0, rfl, hc2, hg2⟩
      have hx12 : x0 < 12 := by omega
      have Hr2 := Lib.hid (Hr0.out.draw hlt hc2 hg2)
      clear Hr0 hc2 hg2 hx0
      have Hr3 := Lib.hid (DR.call Hr2.out (below_box w2 (.cells #[.int .i64 30, .int .i64 30, .int .i64 30, .int .i64 (x0 : Int)] 3)))
      have hlt2 : g < w2.heap.size := Hr2.out.1.lt
      clear Hr2
      go_wp2_with fail
      refine (pickInt_all (fun z => 0 ≤ z ∧ z ≤ 30) g w2.heap.size 4 [30, 30, 30, (x0 : Int)] _ Hr3.out.1 (by omega) (by omega) (by omega) (by simp) ?_ (fun k hk => four_in hx12 k hk)).mono ?_
      · exact fun k hk => four_cells _ _ _ rfl _ k hk
      rintro e w4 ⟨nz, hnz0, rfl, hc4, hg4⟩
      have Hr4 := Lib.hid (Hr3.out.draw hlt hc4 hg4)
      obtain ⟨hnz, hnz30⟩ := hnz0
      obtain ⟨n, rfl⟩ : ∃ n : Nat, nz = n := Int.eq_ofNat_of_zero_le hnz
      clear Hr3 hc4 hg4
      obtain ⟨c0, c1⟩ := HBx.out _ Hr4.out.2.1
      go_wp2_with fail
      refine (HF.out _).mono ?_
      rintro e w5 ⟨rfl, hb⟩
      have Hr5 := Lib.hid (DR.call Hr4.out hb)
      clear hb Hr4 c0 c1
      go_wp2_with fail
      refine (HWs.out k _).mono ?_
      rintro e w6 ⟨vw, rfl, how, hb⟩
      have Hr6 := Lib.hid (DR.call Hr5.out hb)
      have hw5 := Hr5.out.2.2.2.2.1
      have Hnb : Hid (∀ d ∈ wlZ x y (topZ x y) k, nbZ x y k d ≠ -1) := Lib.hid ways_nb
      have hwl4 : (wlZ x y (topZ x y) k).length ≤ 4 := wlN_len x y (topZ x y) k 4
      clear hb
      generalize wlZ x y (topZ x y) k = wl at *
      have hinv : ∀ q, (Value.slice (some ⟨RB, 0, none⟩) 0 0).ownBlock = some q → q < w5.heap.size := fun q e => (Hr5.out.2.2.2.2.2.lt q e).2
      have HNx : Hid (∀ l v X, DR W1 g ls u5 RB l v X → l.length ≤ 60 → (∀ d ∈ l, nbZ x y k d ≠ -1) → (k = 0 → l = []) → Rw x y (ls ++ [l])) := Lib.hid fun l v X _ h1 h2 h3 => Hrw.out.snoc h1 (by rw [Hli.out]; exact h2) (by rw [Hli.out]; exact h3)
      obtain ⟨A3, c3, hv3⟩ := Hr6.out.2.2.1.form
      rw [Hli.out] at hv3
      subst hv3
      by_cases hgo : 0 < k ∧ 0 < wl.length
      · obtain ⟨gw, cw, rfl, hgw1, hgw2⟩ := own_some how hgo.2
        have hkp : (0 : Int) < (k : Int) := by omega
        have hwp : (0 : Int) < (wl.length : Int) := by omega
        have Hw0 : Hid (DW W1 g ls (.slice A3 k c3) RB [] (.slice (some ⟨RB, 0, none⟩) 0 0) wl gw cw w6) := Lib.hid ⟨Hr6.out, own_base how hw5, fun e => by have := hinv gw e; omega⟩
        clear how Hr5 Hr6 hinv hgw1 hgw2
        go_wp2_with fail
        go_loopw [7, 10] (fun u7 u10 wq => ∃ i : Nat, i ≤ n ∧ u10 = .int .i64 i ∧ ∃ l : List Int, l.length = i ∧ (∀ d ∈ l, nbZ x y k d ≠ -1) ∧ DW W1 g ls (.slice A3 k c3) RB l u7 wl gw cw wq) (fun _ u10 _ => n - (intOf u10).toNat)
        case atStart => exact ⟨0, Nat.zero_le _, rfl, [], rfl, fun d hd => absurd hd (by simp), Hw0.out⟩
        case round =>
          clear Hw0
          obtain ⟨i, hi, rfl, l, hll, hln, hw⟩ := hrel
          have Hw := Lib.hid hw
          have Hll := Lib.hid hll
          have Hln := Lib.hid hln
          clear hll hln
          have hi0' : (0 : Int) ≤ (i : Int) := Int.natCast_nonneg _
          obtain ⟨A7, c7, hv7⟩ := own_form hw.1.2.2.2.2.2
          rw [Hll.out] at hv7
          subst hv7
          clear hw
          by_cases hin : i < n
          · have hi1 : (i : Int) < (n : Int) := by omega
            go_wp2_with fail
            refine (below_any g (wl.length : Int) _ Hw.out.1.1 (by omega) (by omega)).mono ?_
            rintro e w7 ⟨j, hj0, rfl, hc7, hg7⟩
            have Hw7 := Lib.hid (Hw.out.draw hlt hc7 hg7)
            clear hc7 hg7 Hw
            have hjl : j < wl.length := by omega
            obtain ⟨d, hd⟩ : ∃ d, wl[j]? = some d := ⟨wl[j], List.getElem?_eq_getElem hjl⟩
            have hcd := own_cellI Hw7.out.2.1 hd
            have hdn := Hnb.out d (List.mem_of_getElem? hd)
            have hj0' : (0 : Int) ≤ (j : Int) := Int.natCast_nonneg _
            have hj1 : (j : Int) < (wl.length : Int) := by omega
            have Hdn := Lib.hid hdn
            have hown := Hw7.out.1.2.2.2.2.2
            rw [Hll.out] at hown
            have hRz := Hw7.out.1.2.2.2.2.1
            clear hd hdn hj0
            go_wp2_with (at_builtin; refine wpList_append_lies _ rfl (.tmp 42) (.tmp 50) 32 rfl RB 3 i0 _ 1 8 Try.underlying32 hi0 hz0 hz1 hz2 rfl (by decide) _ i _ rfl (hown.alloc _) ⟨w7.heap.size, 0, none⟩ 1 1 (icells [d]) rfl rfl (news_eqI rfl (heap_alloc_new w7 _)) (oneCellI _) (by omega) (by unfold maxLen; omega) (by omega) (by simp; omega) (w7.heap.size + 1) (by simp) ?_; intro gg cap w8 o8 g8 hat hlt8; clear hlt8; have HAt := Lib.hid hat; clear hat)
            have Hw8 : Hid (DW W1 g ls (.slice A3 k c3) RB (l ++ [d]) (.slice (some ⟨gg, 0, none⟩) (i + 1) cap) wl gw cw w8) := Lib.hid (by
              have := Hw7.out.app (gg := gg) (cap := cap) hlt (by rw [Hll.out]; exact o8) g8 HAt.out
              rw [Hll.out] at this; exact this)
            clear o8 g8 hown Hw7 HAt hcd
            go_wp2_with fail
            go_roundw
            case rel => exact ⟨i + 1, by omega, by go_num, _, by rw [List.length_append, Hll.out]; rfl, fun z hz => by
              rcases List.mem_append.1 hz with h | h
              · exact Hln.out z h
              · rw [List.mem_singleton.1 h]; exact Hdn.out, Hw8.out⟩
            case measure => simp [intOf]; omega
          · obtain rfl : i = n := by omega
            obtain ⟨cs, hcs, hcsN⟩ := Hw.out.1.done hlt
            rw [Hli.out] at hcs hcsN
            have hgz := Hw.out.1.2.1.size
            have HR := Lib.hid (HNx.out l _ _ Hw.out.1 (by have := Hll.out; omega) Hln.out (fun e => by omega))
            go_wp2_with (at_builtin; refine wpList_append_lies _ rfl (.tmp 52) (.tmp 54) 37 rfl W1.heap.size 32 j0 _ 1 24 Try.underlying37 hj0 hy0 hy1 hy2 rfl (by decide) _ k cs rfl (hcs.alloc _) ⟨wr.heap.size, 0, none⟩ 1 1 [.slice A7 i c7] rfl rfl (news_eqI rfl (heap_alloc_new wr _)) (fun u hu => by rw [List.mem_singleton.1 hu]; rfl) (by omega) (by unfold maxLen; omega) (by omega) (by simp; omega) _ rfl ?_; intro gg cap w9 o9 g9 hat hlt9; clear hat hlt9)
            have Hd9 := Lib.hid (hcsN _ w9 gg cap o9 g9)
            clear o9 g9 hcsN hcs
            go_wp2_with fail
            go_roundw
            case rel => exact ⟨k + 1, by omega, by go_num, _, by rw [List.length_append, Hli.out]; rfl, HR.out, Hd9.out⟩
            case measure => simp [intOf]; omega
      · obtain ⟨Aw, cw, rfl⟩ := own_form how
        have hor : ¬ (0 : Int) < (k : Int) ∨ ((0 : Int) < (k : Int) ∧ ¬ (0 : Int) < (wl.length : Int)) := by omega
        clear how Hr5 hinv hgo
        by_cases hn0 : 0 < n
        · have hn1 : (0 : Int) < (n : Int) := by omega
          rcases hor with h1 | ⟨h1, h2⟩
          · go_wp2_with fail
            go_loopw [7, 10] (fun u7 u10 wq => u7 = .slice (some ⟨RB, 0, none⟩) 0 0 ∧ u10 = .int .i64 0 ∧ wq = w6) (fun _ _ _ => 0)
            case atStart => exact ⟨rfl, rfl, rfl⟩
            case round =>
              obtain ⟨rfl, rfl, rfl⟩ := hrel
              obtain ⟨cs, hcs, hcsN⟩ := Hr6.out.done hlt
              rw [Hli.out] at hcs hcsN
              have hgz := Hr6.out.2.1.size
              have HR := Lib.hid (HNx.out [] _ _ Hr6.out (by simp) (by simp) (fun _ => rfl))
              go_wp2_with (at_builtin; refine wpList_append_lies _ rfl (.tmp 52) (.tmp 54) 37 rfl W1.heap.size 32 j0 _ 1 24 Try.underlying37 hj0 hy0 hy1 hy2 rfl (by decide) _ k cs rfl (hcs.alloc _) ⟨wr.heap.size, 0, none⟩ 1 1 [.slice (some ⟨RB, 0, none⟩) 0 0] rfl rfl (news_eqI rfl (heap_alloc_new wr _)) (fun u hu => by rw [List.mem_singleton.1 hu]; rfl) (by omega) (by unfold maxLen; omega) (by omega) (by simp; omega) _ rfl ?_; intro gg cap w9 o9 g9 hat hlt9; clear hat hlt9)
              have Hd9 := Lib.hid (hcsN _ w9 gg cap o9 g9)
              clear o9 g9 hcsN hcs
              go_wp2_with fail
              go_roundw
              case rel => exact ⟨k + 1, by omega, by go_num, _, by rw [List.length_append, Hli.out]; rfl, HR.out, Hd9.out⟩
              case measure => simp [intOf]; omega
          · go_wp2_with fail
            go_loopw [7, 10] (fun u7 u10 wq => u7 = .slice (some ⟨RB, 0, none⟩) 0 0 ∧ u10 = .int .i64 0 ∧ wq = w6) (fun _ _ _ => 0)
            case atStart => exact ⟨rfl, rfl, rfl⟩
            case round =>
              obtain ⟨rfl, rfl, rfl⟩ := hrel
              obtain ⟨cs, hcs, hcsN⟩ := Hr6.out.done hlt
              rw [Hli.out] at hcs hcsN
              have hgz := Hr6.out.2.1.size
              have HR := Lib.hid (HNx.out [] _ _ Hr6.out (by simp) (by simp) (fun _ => rfl))
              go_wp2_with (at_builtin; refine wpList_append_lies _ rfl (.tmp 52) (.tmp 54) 37 rfl W1.heap.size 32 j0 _ 1 24 Try.underlying37 hj0 hy0 hy1 hy2 rfl (by decide) _ k cs rfl (hcs.alloc _) ⟨wr.heap.size, 0, none⟩ 1 1 [.slice (some ⟨RB, 0, none⟩) 0 0] rfl rfl (news_eqI rfl (heap_alloc_new wr _)) (fun u hu => by rw [List.mem_singleton.1 hu]; rfl) (by omega) (by unfold maxLen; omega) (by omega) (by simp; omega) _ rfl ?_; intro gg cap w9 o9 g9 hat hlt9; clear hat hlt9)
              have Hd9 := Lib.hid (hcsN _ w9 gg cap o9 g9)
              clear o9 g9 hcsN hcs
              go_wp2_with fail
              go_roundw
              case rel => exact ⟨k + 1, by omega, by go_num, _, by rw [List.length_append, Hli.out]; rfl, HR.out, Hd9.out⟩
              case measure => simp [intOf]; omega
        · have hn1 : ¬ (0 : Int) < (n : Int) := by omega
          clear hor
          go_wp2_with fail
          go_loopw [7, 10] (fun u7 u10 wq => u7 = .slice (some ⟨RB, 0, none⟩) 0 0 ∧ u10 = .int .i64 0 ∧ wq = w6) (fun _ _ _ => 0)
          case atStart => exact ⟨rfl, rfl, rfl⟩
          case round =>
            obtain ⟨rfl, rfl, rfl⟩ := hrel
            obtain ⟨cs, hcs, hcsN⟩ := Hr6.out.done hlt
            rw [Hli.out] at hcs hcsN
            have hgz := Hr6.out.2.1.size
            have HR := Lib.hid (HNx.out [] _ _ Hr6.out (by simp) (by simp) (fun _ => rfl))
            go_wp2_with (at_builtin; refine wpList_append_lies _ rfl (.tmp 52) (.tmp 54) 37 rfl W1.heap.size 32 j0 _ 1 24 Try.underlying37 hj0 hy0 hy1 hy2 rfl (by decide) _ k cs rfl (hcs.alloc _) ⟨wr.heap.size, 0, none⟩ 1 1 [.slice (some ⟨RB, 0, none⟩) 0 0] rfl rfl (news_eqI rfl (heap_alloc_new wr _)) (fun u hu => by rw [List.mem_singleton.1 hu]; rfl) (by omega) (by unfold maxLen; omega) (by omega) (by simp; omega) _ rfl ?_; intro gg cap w9 o9 g9 hat hlt9; clear hat hlt9)
            have Hd9 := Lib.hid (hcsN _ w9 gg cap o9 g9)
            clear o9 g9 hcsN hcs
            go_wp2_with fail
            go_roundw
            case rel => exact ⟨k + 1, by omega, by go_num, _, by rw [List.length_append, Hli.out]; rfl, HR.out, Hd9.out⟩
            case measure => simp [intOf]; omega
    · obtain rfl : k = N := by omega
      have hdk : decide ((k : Int) < (k : Int)) = false := by simp
      obtain ⟨A3, c3, rfl⟩ := Hd1.out.2.2.form
      have HA := Lib.hid (Hrw.out.ao Hk.out (by rw [Hli.out, HNe.out]))
      go_wp2_with fail
      go_ret
      exact HK.out _ _ ls HA.out Hd1.out

/-- An order is drawn. -/
def DrawnO (g : Nat) (x y : Int) (w : World) (e : Ending) (w' : World) : Prop := ∃ l v, (l.length ≤ 5 ∧ ∀ u ∈ l, 0 ≤ u ∧ u < x * y) ∧ e = .returned v ∧ Cur w' g ∧ w.grownBy w' (some g) ∧ w'.ownsRow w.heap.size 3 1 v l.length (icells l)
/-- The cursor and the list so far. -/
def CQ (w : World) (g : Nat) (l : List Int) (v : Value) (X : World) : Prop := Cur X g ∧ w.grownBy X (some g) ∧ X.ownsRow w.heap.size 3 1 v l.length (icells l)
theorem CQ.draw {w X X' : World} {g : Nat} {l : List Int} {v : Value} (h : CQ w g l v X) (hlt : g < w.heap.size) (hc : Cur X' g) (hg : X.grownBy X' (some g)) : CQ w g l v X' := by
  refine ⟨hc, only_trans h.2.1 hg, h.2.2.kept hg ?_⟩
  cases hv : v.ownBlock with
  | none => exact .inl rfl
  | some q => exact .inr fun e => by have := (h.2.2.lt q hv).1; have := Option.some.inj e; omega
theorem CQ.call {w X X' : World} {g : Nat} {l : List Int} {v : Value} (h : CQ w g l v X) (hb : Below X.heap.size X X') : CQ w g l v X' :=
  ⟨h.1.kept hb h.1.lt, grown_low h.2.1 hb h.2.1.size, own_call h.2.2 hb⟩
theorem CQ.app {w X X' : World} {g gg cap : Nat} {l : List Int} {v : Value} {o : Obj} {u : Int} (h : CQ w g l v X) (hlt : g < w.heap.size)
    (ho : X'.ownsRow w.heap.size 3 1 (.slice (some ⟨gg, 0, none⟩) (l.length + 1) cap) (l.length + 1) (icells l ++ icells [u])) (hg : (X.alloc o).grownBy X' v.ownBlock) : CQ w g (l ++ [u]) (.slice (some ⟨gg, 0, none⟩) (l.length + 1) cap) X' := by
  obtain ⟨h1, h2, h3⟩ := h
  have hb : Below w.heap.size X X' := below_app (Below.refl _ _) (Nat.le_refl _) h2.size h3 hg
  exact ⟨h1.kept hb hlt, grown_low h2 hb (Nat.le_refl _), by rw [List.length_append, icells_append]; exact ho⟩
theorem drawnO_mk {g : Nat} {x y : Int} {w W1 w' : World} {l : List Int} {v : Value} {n : Nat} (hl : l.length = n) (hn : n ≤ 5) (hr : ∀ u ∈ l, 0 ≤ u ∧ u < x * y) (hw : w.grownBy w' (some g)) (hz : w.heap.size ≤ W1.heap.size) (hd : CQ W1 g l v w') : DrawnO g x y w (.returned v) w' :=
  ⟨l, v, ⟨by omega, hr⟩, rfl, hd.1, hw, own_base hd.2.2 hz⟩

set_option maxRecDepth 100000 in
set_option maxHeartbeats 4000000 in
theorem order_any (g : Nat) (x y : Int) (w : World) (hc : Cur w g) (hk : OkZ x y) :
    Calls Try.prog 58 #[.pointer (some ⟨g, 0, none⟩), .agg #[.int .i64 x, .int .i64 y]] w (DrawnO g x y w) := by
  obtain ⟨i0, hi0, hz0, hz1, hz2⟩ := info_parts info_int
  have hlt0 := hc.lt
  have HC : Hid (∀ X, Calls Try.prog 11 #[.agg #[.int .i64 x, .int .i64 y]] X (Nm (x * y) X)) := fun X => gridS.countCells_yes x y X hk.1 hk.2.1 hk.2.2.1 hk.2.2.2
  have hN := (mul_bd x y hk.1 hk.2.1 hk.2.2.1 hk.2.2.2).1
  obtain ⟨W1, hW1⟩ : ∃ W1, W1 = w.alloc (.cells #[.int .i64 x, .int .i64 y] 25) := ⟨_, rfl⟩
  have hz1' : W1.heap.size = w.heap.size + 1 := by rw [hW1]; simp
  have hbx : Box w.heap.size x y W1 := by rw [hW1]; exact box_new x y w _
  have hc1 : Cur W1 g := by rw [hW1]; exact hc.alloc1 _
  have hw1 : w.grownBy W1 (some g) := by rw [hW1]; exact only_alloc1 (World.grownBy.refl w (some g)) _
  have hlt : g < W1.heap.size := by omega
  have hne : w.heap.size ≠ g := by omega
  have HBx := Lib.hid (fun X (h : W1.grownBy X (some g)) => (box_in hbx h hne).1)
  have HK := @Lib.hid _ (fun (w' : World) v l n (a : l.length = n) (b : n ≤ 5) (c : ∀ u ∈ l, 0 ≤ u ∧ u < x * y) (d : CQ W1 g l v w') => @drawnO_mk g x y w W1 w' l v n a b c (only_trans hw1 d.2.1) (by omega) d)
  have hd0 : Hid (CQ W1 g [] (.slice (some ⟨w.heap.size + 1, 0, none⟩) 0 0) (W1.alloc (.cells #[] 3))) := Lib.hid (by rw [← hz1']; exact ⟨hc1.alloc1 _, only_alloc1 (World.grownBy.refl W1 (some g)) _, (ol_new (Below.refl W1.heap.size W1) (Nat.le_refl _)).2.2.2⟩)
  have HW1 := Lib.hid hW1
  clear hc hk hbx hc1 hw1 hz1' hW1
  generalize hN2 : x * y = N at *
  clear hN2
  go_enter Try.func58, Try.ntmps58
  go_wp2_with fail
  rw [← HW1.out]
  refine (below_any g 6 _ hd0.out.1 (by decide) (by decide)).mono ?_
  rintro e w1 ⟨n, hn6, rfl, hc1, hg1⟩
  have hn : n ≤ 5 := by omega
  have hd := Lib.hid (hd0.out.draw hlt hc1 hg1)
  clear hd0 hc1 hg1 hn6
  go_wp2_with fail
  go_loopw [5, 7] (fun u5 u7 wr => ∃ i : Nat, i ≤ n ∧ u7 = .int .i64 i ∧ ∃ l : List Int, l.length = i ∧ (∀ u ∈ l, 0 ≤ u ∧ u < N) ∧ CQ W1 g l u5 wr) (fun _ u7 _ => n - (intOf u7).toNat)
  case atStart => exact ⟨0, Nat.zero_le _, rfl, [], rfl, fun u hu => absurd hu (by simp), hd.out⟩
  case round =>
    clear hd
    obtain ⟨i, hi, rfl, l, hll, hln, hd⟩ := hrel
    have Hd := Lib.hid hd
    have Hll := Lib.hid hll
    have Hln := Lib.hid hln
    clear hll hln
    have hi0' : (0 : Int) ≤ (i : Int) := Int.natCast_nonneg _
    obtain ⟨A7, c7, hv7⟩ := own_form hd.2.2
    rw [Hll.out] at hv7
    subst hv7
    obtain ⟨c0, c1⟩ := HBx.out _ hd.2.1
    clear hd
    by_cases hin : i < n
    · have hi1 : (i : Int) < (n : Int) := by omega
      obtain h1N | rfl : (1 : Int) < N ∨ N = 1 := by omega
      · go_wp2_with fail
        refine (HC.out _).mono ?_
        rintro e w2 ⟨rfl, hb⟩
        have Hd2 := Lib.hid (Hd.out.call hb)
        clear hb Hd c0 c1
        go_wp2_with fail
        refine (below_any g N _ Hd2.out.1 (by omega) (by omega)).mono ?_
        rintro e w3 ⟨d, hdr, rfl, hc3, hg3⟩
        have Hd3 := Lib.hid (Hd2.out.draw hlt hc3 hg3)
        have Hdr := Lib.hid (show (0 : Int) ≤ (d : Int) ∧ (d : Int) < N from ⟨by omega, hdr⟩)
        have hown := Hd3.out.2.2
        rw [Hll.out] at hown
        have hRz := Hd3.out.2.1.size
        clear Hd2 hc3 hg3 hdr
        go_wp2_with (at_builtin; refine wpList_append_lies _ rfl (.tmp 16) (.tmp 22) 32 rfl W1.heap.size 3 i0 _ 1 8 Try.underlying32 hi0 hz0 hz1 hz2 rfl (by decide) _ i _ rfl (hown.alloc _) ⟨w3.heap.size, 0, none⟩ 1 1 (icells [(d : Int)]) rfl rfl (news_eqI rfl (heap_alloc_new w3 _)) (oneCellI _) (by omega) (by unfold maxLen; omega) (by omega) (by simp; omega) (w3.heap.size + 1) (by simp) ?_; intro gg cap w8 o8 g8 hat hlt8; clear hlt8 hat)
        have Hd8 : Hid (CQ W1 g (l ++ [(d : Int)]) (.slice (some ⟨gg, 0, none⟩) (i + 1) cap) w8) := Lib.hid (by
          have := Hd3.out.app (gg := gg) (cap := cap) hlt (by rw [Hll.out]; exact o8) g8
          rw [Hll.out] at this; exact this)
        clear o8 g8 hown Hd3
        go_wp2_with fail
        go_roundw
        case rel => exact ⟨i + 1, by omega, by go_num, _, by rw [List.length_append, Hll.out]; rfl, fun z hz => by
          rcases List.mem_append.1 hz with h | h
          · exact Hln.out z h
          · rw [List.mem_singleton.1 h]; exact Hdr.out, Hd8.out⟩
        case measure => simp [intOf]; omega
      · go_wp2_with fail
        refine (HC.out _).mono ?_
        rintro e w2 ⟨rfl, hb⟩
        have Hd2 := Lib.hid (Hd.out.call hb)
        clear hb Hd c0 c1
        go_wp2_with fail
        refine (below_any g 1 _ Hd2.out.1 (by omega) (by omega)).mono ?_
        rintro e w3 ⟨d, hdr, rfl, hc3, hg3⟩
        have Hd3 := Lib.hid (Hd2.out.draw hlt hc3 hg3)
        have Hdr := Lib.hid (show (0 : Int) ≤ (d : Int) ∧ (d : Int) < 1 from ⟨by omega, hdr⟩)
        have hown := Hd3.out.2.2
        rw [Hll.out] at hown
        have hRz := Hd3.out.2.1.size
        clear Hd2 hc3 hg3 hdr
        go_wp2_with (at_builtin; refine wpList_append_lies _ rfl (.tmp 16) (.tmp 22) 32 rfl W1.heap.size 3 i0 _ 1 8 Try.underlying32 hi0 hz0 hz1 hz2 rfl (by decide) _ i _ rfl (hown.alloc _) ⟨w3.heap.size, 0, none⟩ 1 1 (icells [(d : Int)]) rfl rfl (news_eqI rfl (heap_alloc_new w3 _)) (oneCellI _) (by omega) (by unfold maxLen; omega) (by omega) (by simp; omega) (w3.heap.size + 1) (by simp) ?_; intro gg cap w8 o8 g8 hat hlt8; clear hlt8 hat)
        have Hd8 : Hid (CQ W1 g (l ++ [(d : Int)]) (.slice (some ⟨gg, 0, none⟩) (i + 1) cap) w8) := Lib.hid (by
          have := Hd3.out.app (gg := gg) (cap := cap) hlt (by rw [Hll.out]; exact o8) g8
          rw [Hll.out] at this; exact this)
        clear o8 g8 hown Hd3
        go_wp2_with fail
        go_roundw
        case rel => exact ⟨i + 1, by omega, by go_num, _, by rw [List.length_append, Hll.out]; rfl, fun z hz => by
          rcases List.mem_append.1 hz with h | h
          · exact Hln.out z h
          · rw [List.mem_singleton.1 h]; exact Hdr.out, Hd8.out⟩
        case measure => simp [intOf]; omega
    · obtain rfl : i = n := by omega
      go_wp2_with fail
      go_ret
      exact HK.out _ _ l _ Hll.out hn Hln.out Hd.out
end Go.Proofs.Ytcoikcnijaniaaa.popD
