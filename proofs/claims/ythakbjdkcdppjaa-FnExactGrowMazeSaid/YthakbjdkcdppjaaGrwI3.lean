/- The contract of the program's growing. -/
import Derived.Test.YthakbjdkcdppjaaGrwI2
import Derived.Test.YthakbjdkcdppjaaPrgM
import Derived.Deep.LoopGhost
namespace Go.Proofs.Ythakbjdkcdppjaa.grwI
open Go.ChangeShapes Go.WideShapes Go.ChangeAt Go.RowKit Go.Maps
open draw gridP gridC gridE bitP mazeP mazeC mazeM mazeR mazeI intsP reachP reachM reachN reachD forest intA listK setI wayP ersP ersO entO grwP grwQ grwO
set_option linter.unusedVariables false

/-- A block of one cell. -/
def One (b : Nat) (v : Value) (X : World) : Prop := ∃ T, X.heap[b]? = some (.cells #[v] T (0, 0))
theorem one_lt {b : Nat} {v : Value} {X : World} (h : One b v X) : b < X.heap.size := by
  obtain ⟨T, h⟩ := h
  exact (Array.getElem?_eq_some_iff.1 h).1
theorem One.low {b B : Nat} {v : Value} {X X' : World} (h : One b v X) (hb : Below B X X') (hB : b < B) : One b v X' := by
  obtain ⟨T, h⟩ := h
  exact ⟨T, (hb.block b hB).trans h⟩
theorem One.call {b : Nat} {v : Value} {X X' : World} (h : One b v X) (hb : Below X.heap.size X X') : One b v X' := h.low hb (one_lt h)
theorem one_new (v : Value) (W : World) (T : TypeId) : One W.heap.size v (W.alloc (.cells #[v] T)) := ⟨T, heap_alloc_new W _⟩
theorem one_cells {b : Nat} {v : Value} {X : World} (h : One b v X) : X.cell? ⟨b, 0, none⟩ = some v ∧ X.frozen? ⟨b, 0, none⟩ = false := by
  obtain ⟨T, h⟩ := h
  exact ⟨cell_of_row X b 0 _ _ _ h, by simp [World.frozen?, h]⟩
theorem one_put {b : Nat} {v v' : Value} {X : World} (h : One b v X) : One b v' (X.setCell ⟨b, 0, none⟩ v') := by
  obtain ⟨T, h⟩ := h
  exact ⟨T, by rw [Go.heap_setCell_same X b 0 _ _ _ h]; rfl⟩
theorem one_far {b : Nat} {v : Value} {X : World} (h : One b v X) {p : Addr} (hp : p.block ≠ b) (u : Value) : One b v (X.setCell p u) := by
  obtain ⟨T, h⟩ := h
  exact ⟨T, (Below.heap_setCell X p u b (fun e => hp e.symm)).trans h⟩
theorem one_grown {b g : Nat} {v : Value} {X X' : World} (h : One b v X) (hg : X.grownBy X' (some g)) (hne : b ≠ g) : One b v X' := by
  have hl := one_lt h
  obtain ⟨T, h⟩ := h
  exact ⟨T, (hg.block b hl (fun e => hne (Option.some.inj e))).trans h⟩
theorem row3_grw {b g : Nat} {x y z : Int} {X X' : World} (h : Row3 b x y z X) (hg : X.grownBy X' (some g)) (hne : b ≠ g) : Row3 b x y z X' := by
  have hl := row3_lt h
  obtain ⟨T, h⟩ := h
  exact ⟨T, (hg.block b hl (fun e => hne (Option.some.inj e))).trans h⟩
theorem omap_far {b n : Nat} {D : DataW Unit} {X : World} (h : X.ownsMap Try.prog 3 (plainElem Try.prog 4) b n D) {p : Addr} (hp : p.block ≠ b) (u : Value) : (X.setCell p u).ownsMap Try.prog 3 (plainElem Try.prog 4) b n D := by
  obtain ⟨es, clock, hb', F, hs, hD⟩ := h
  exact ⟨es, clock, (Below.heap_setCell X p u b (fun e => hp e.symm)).trans hb', F, hs, hD⟩

/-- The grid's box, the answer's block, the choices; the maze; the set; the chooser. -/
def GZ (W : World) (x y : Int) (A : Option Addr) (cs : List Int) (M b C n : Nat) (D : DataW Unit) (q : Nat) (v : Value) (o : Int) (X : World) : Prop :=
  GW W x y A cs X ∧ Row3 M x y o X ∧ X.ownsMap Try.prog 3 (plainElem Try.prog 4) b n D ∧ One C v X ∧ ChV X W.heap.size cs q v ∧ W.heap.size + 1 < M ∧ M < b ∧ b < C
section
variable {W X X' : World} {x y o : Int} {A : Option Addr} {cs : List Int} {M b C n q : Nat} {D : DataW Unit} {v : Value}
theorem GZ.lt (h : GZ W x y A cs M b C n D q v o X) : C < X.heap.size := one_lt h.2.2.2.1
theorem GZ.low {B : Nat} (h : GZ W x y A cs M b C n D q v o X) (hb : Below B X X') (hB : C < B) : GZ W x y A cs M b C n D q v o X' := by
  obtain ⟨h1, h2, h3, h4, h5, h6, h7, h8⟩ := h
  exact ⟨GW.low h1 hb (by omega), row3_below h2 hb (by omega), entI.omap_low h3 hb (by omega), h4.low hb hB, h5.keep (hb.mono (by omega)), h6, h7, h8⟩
theorem GZ.call (h : GZ W x y A cs M b C n D q v o X) (hb : Below X.heap.size X X') : GZ W x y A cs M b C n D q v o X' := h.low hb h.lt
theorem GZ.put (h : GZ W x y A cs M b C n D q v o X) (o' : Int) : GZ W x y A cs M b C n D q v o' (((X.setCell ⟨M, 0, none⟩ (.int .i64 x)).setCell ⟨M, 1, none⟩ (.int .i64 y)).setCell ⟨M, 2, none⟩ (.int .i64 o')) := by
  obtain ⟨⟨h1, h2, h3, h5⟩, h4, h6, h7, h8, h9, h10, h11⟩ := h
  have hb : Below W.heap.size X (((X.setCell ⟨M, 0, none⟩ (.int .i64 x)).setCell ⟨M, 1, none⟩ (.int .i64 y)).setCell ⟨M, 2, none⟩ (.int .i64 o')) :=
    (((Below.refl _ _).setCell (by simp; omega) _).setCell (by simp; omega) _).setCell (by simp; omega) _
  exact ⟨⟨h1.trans hb, box_far (box_far (box_far h2 (by simp; omega) _) (by simp; omega) _) (by simp; omega) _, row3_far (row3_far (row3_far h3 (by simp; omega) _) (by simp; omega) _) (by simp; omega) _, h5.below hb⟩,
    row3_set h4, omap_far (omap_far (omap_far h6 (by simp; omega) _) (by simp; omega) _) (by simp; omega) _, one_far (one_far (one_far h7 (by simp; omega) _) (by simp; omega) _) (by simp; omega) _, h8.keep hb, h9, h10, h11⟩
theorem GZ.turn {n' : Nat} {D' : DataW Unit} (h : GZ W x y A cs M b C n D q v o X) (ho : X'.ownsMap Try.prog 3 (plainElem Try.prog 4) b n' D') (hg : X.grownBy X' (some b)) : GZ W x y A cs M b C n' D' q v o X' := by
  obtain ⟨⟨h1, h2, h3, h5⟩, h4, h6, h7, h8, h9, h10, h11⟩ := h
  have hb : Below b X X' := (Below.refl _ _).grown hg (by have := h6.lt; omega) (fun j hj => by cases hj; exact Nat.le_refl _)
  exact ⟨⟨h1.trans (hb.mono (by omega)), box_below h2 hb (by omega), row3_below h3 hb (by omega), h5.below (hb.mono (by omega))⟩, row3_below h4 hb (by omega), ho, one_grown h7 hg (by omega), h8.keep (hb.mono (by omega)), h9, h10, h11⟩
theorem GZ.next (h : GZ W x y A cs M b C n D q v o X) (hx : NxP ⟨C, 0, none⟩ W.heap.size cs q v X X') : (∃ v', GZ W x y A cs M b C n D (q + 1) v' o X') ∧ ∀ p u, p.block ≠ C → X.cell? p = some u → X'.cell? p = some u := by
  obtain ⟨v', hv, h'⟩ := hx
  obtain ⟨⟨h1, h2, h3, h5⟩, h4, h6, h7, h8, h9, h10, h11⟩ := h
  rcases h' with ⟨rfl, rfl⟩ | rfl
  · exact ⟨⟨_, ⟨h1, h2, h3, h5⟩, h4, h6, h7, hv, h9, h10, h11⟩, fun p u _ h => h⟩
  · have hb : Below W.heap.size X (X.setCell ⟨C, 0, none⟩ v') := (Below.refl _ _).setCell (by simp; omega) _
    exact ⟨⟨_, ⟨h1.trans hb, box_far h2 (by simp; omega) _, row3_far h3 (by simp; omega) _, h5.below hb⟩, row3_far h4 (by simp; omega) _, omap_far h6 (by simp; omega) _, one_put h7, hv.keep hb, h9, h10, h11⟩,
      fun p u hp h => set1_keep h hp⟩
theorem gz_new (h1 : GW W x y A cs X) (h2 : Row3 M x y o X) (h3 : X.ownsMap Try.prog 3 (plainElem Try.prog 4) b n D) (h4 : W.heap.size + 1 < M) (h5 : M < b) (hv : ChV W W.heap.size cs 0 v) (T : TypeId) :
    GZ W x y A cs M b X.heap.size n D 0 v o (X.alloc (.cells #[v] T)) :=
  ⟨h1.call (below_box _ _), h2.call (below_box _ _), entI.omap_low h3 (below_box _ _) h3.lt, one_new v X T, hv.keep (h1.call (below_box _ _)).1, h4, h5, h3.lt⟩
end

set_option maxRecDepth 100000 in
set_option maxHeartbeats 4000000 in
theorem growI_any (x y : Int) (A : Option Addr) (n c : Nat) (cs : List Int) (W : World) (hn : cs.length = n) (hm : n ≤ 1048576) (hi : IntsIn W W.heap.size A cs) (hc : n ≤ c) :
    Calls Try.prog 9 #[.agg #[.int .i64 x, .int .i64 y], .slice A n c] W (Mz (fmX x y) (fmY x y) (gmO x y cs) W) := by
  have HW := Lib.hid (fun T1 T2 => @gw_new W x y A cs hi T1 T2)
  have HCv : Hid (ChV W W.heap.size cs 0 (.slice A n c)) := Lib.hid ⟨A, n, c, rfl, hn, hc, hi⟩
  clear hi hn hc
  by_cases hk : 1 ≤ x ∧ x ≤ 4 ∧ 1 ≤ y ∧ y ≤ 4
  · have HG : Hid (∀ X, Calls Try.prog 23 #[.agg #[.int .i64 x, .int .i64 y]] X (Bl true X)) := Lib.hid fun X => ok_yes x y X hk.1 hk.2.1 hk.2.2.1 hk.2.2.2
    obtain ⟨n1, n2, n3⟩ := nn2 hk
    have HC : Hid (∀ X, Calls Try.prog 25 #[.agg #[.int .i64 x, .int .i64 y]] X (Nm ((cN x y : Nat) : Int) X)) := Lib.hid fun X => by
      have := cells_any x y X hk.1 hk.2.1 hk.2.2.1 hk.2.2.2
      rwa [n1] at this
    have HEn : Hid (∀ g : Nat, g < gN x y → (∀ X, Calls Try.prog 29 #[.agg #[.int .i64 x, .int .i64 y], .int .i64 (g : Int)] X (Nm2 ((aN x y g : Nat) : Int) ((bN x y g : Nat) : Int) X)) ∧ aN x y g < cN x y ∧ bN x y g < cN x y) := Lib.hid fun g hg => by
      obtain ⟨l1, l2, l3, l4⟩ := ends_lt hk hg
      refine ⟨fun X => ?_, by omega, l2⟩
      have := gridI.endsOf_any x y g X
      rwa [l3, l4] at this
    have HGa : Hid (∀ (b n : Nat) (D : DataW Unit) (I : List Bool) (k : Nat) (X : World), X.ownsMap Try.prog 3 (plainElem Try.prog 4) b n D → Mg D I k → Calls Try.prog 26 #[.agg #[.int .i64 x, .int .i64 y], .map (some b)] X (Ints (crL x y I) X)) := Lib.hid fun b n D I k X h hm => gapsAround_any x y hk b n D I X h (fun c => (hm.2.2 c).2)
    have HSg := Lib.hid (fun z g X => setGap_any x y z g true X)
    have hC16 : cN x y ≤ 16 := by unfold cN; have := Int.mul_le_mul hk.2.1 hk.2.2.2 (by omega) (by omega); omega
    have hG24 : gN x y ≤ 24 := by have := gps_bd hk.1 hk.2.1 hk.2.2.1 hk.2.2.2; unfold gN; omega
    have HE : Hid (Mz x y (grS x y cs (cN x y - 1)).2 W = Mz (fmX x y) (fmY x y) (gmO x y cs) W) := Lib.hid (by
      unfold gmO fmX fmY; rw [if_pos hk, if_pos hk, if_pos hk])
    have HPos : Hid (∀ j, j + 1 < cN x y → 0 < (crL x y (grS x y cs j).1).length ∧ ∃ g : Nat, pkZ (crL x y (grS x y cs j).1) (chZ cs j) = (g : Int) ∧ g < gN x y ∧ icB (grS x y cs j).1 (aN x y g) ≠ icB (grS x y cs j).1 (bN x y g)) := Lib.hid fun j hj => by
      obtain ⟨h1, g, h2, h3⟩ := gr_pos hk cs hj
      refine ⟨h1, g, h2, h3, ?_⟩
      obtain ⟨g', e, hg', hcr⟩ := cr_mem.1 (List.mem_of_getElem? (pk_at (c := chZ cs j) h1))
      obtain rfl : g = g' := by rw [h2] at e; omega
      exact (cr_is _ g).1 hcr
    have HLen := Lib.hid (fun k => gr_len x y cs k)
    have HSt : Hid (∀ j, grS x y cs (j + 1) = (enL x y (grS x y cs j).1 (pkZ (crL x y (grS x y cs j).1) (chZ cs j)), sgZ x y (grS x y cs j).2 (pkZ (crL x y (grS x y cs j).1) (chZ cs j)) true)) := Lib.hid fun j => rfl
    have HIn : Hid (Mg (Sd [0]) (grS x y cs 0).1 1 ∧ (grS x y cs 0).2 = 0) := Lib.hid ⟨mg_new x y (by omega), rfl⟩
    have HS : Hid (∀ L X, IntsIn X X.heap.size (some ⟨L, 0, none⟩) [0] → Calls Try.prog 24 #[.slice (some ⟨L, 0, none⟩) 1 1] X (fun e w' => e = .returned (.map (some X.heap.size)) ∧ SetR X.heap.size 1 [0] w' ∧ Below X.heap.size X w')) := Lib.hid fun L X h =>
      entI.setOf_at (some ⟨L, 0, none⟩) 1 1 [0] X rfl (by omega) h (fun u hu => by obtain rfl := List.mem_singleton.1 hu; omega)
    rw [← HE.out]
    have hNn : 1 ≤ cN x y := by omega
    clear hk n1 n2 n3 HE
    generalize hN : cN x y = N at *
    have HN := Lib.hid hN
    clear hN
    have hN1 : (1 : Int) ≤ (N : Int) := by omega
    go_enter Try.func9, Try.ntmps9
    go_wp2_with fail
    have hgw0 := Lib.hid (HW.out 25 30)
    refine (HG.out _).mono ?_
    rintro e w1 ⟨rfl, hb⟩
    have hgw1 := Lib.hid (hgw0.out.call hb)
    clear hb HW hgw0 HG
    obtain ⟨⟨b0, b1⟩, -⟩ := hgw1.out.2.1
    have hM1 := Lib.hid (row3_new x y 0 w1 30)
    have hgw2 := Lib.hid (hgw1.out.call (below_box w1 (.cells #[.int .i64 x, .int .i64 y, .int .i64 0] 30)))
    have hMz := hgw1.out.size
    have hgw3 := Lib.hid (hgw2.out.call (below_box _ (.cells #[.int .i64 0] 3)))
    have hM3 := Lib.hid (hM1.out.call (below_box _ (.cells #[.int .i64 0] 3)))
    have hint : Hid (IntsIn ((w1.alloc (.cells #[.int .i64 x, .int .i64 y, .int .i64 0] 30)).alloc (.cells #[.int .i64 0] 3)) ((w1.alloc (.cells #[.int .i64 x, .int .i64 y, .int .i64 0] 30)).alloc (.cells #[.int .i64 0] 3)).heap.size (some ⟨w1.heap.size + 1, 0, none⟩) [0]) := Lib.hid fun _ =>
      ⟨⟨w1.heap.size + 1, 0, none⟩, rfl, by simp, fun j u hj => by
        have := news_eqI (cs := #[.int .i64 0]) rfl (heap_alloc_new (w1.alloc (.cells #[.int .i64 x, .int .i64 y, .int .i64 0] 30)) (.cells #[.int .i64 0] 3)) j (.int .i64 u) (by
          rcases j with _ | j
          · simp at hj; subst hj; rfl
          · simp at hj)
        simpa using this⟩
    clear hgw1 hgw2 hM1
    go_wp2_with fail
    refine (HS.out _ _ hint.out).mono ?_
    rintro e w3 ⟨rfl, hs, hb⟩
    have hgw4 := Lib.hid (hgw3.out.call hb)
    have hM4 := Lib.hid (hM3.out.call hb)
    have hs4 := Lib.hid hs
    have hsz3 : Hid (w1.heap.size < ((w1.alloc (.cells #[.int .i64 x, .int .i64 y, .int .i64 0] 30)).alloc (.cells #[.int .i64 0] 3)).heap.size) := Lib.hid (by simp; omega)
    clear hb hs HS hint hgw3 hM3 b0 b1
    generalize ((w1.alloc (.cells #[.int .i64 x, .int .i64 y, .int .i64 0] 30)).alloc (.cells #[.int .i64 0] 3)).heap.size = b at *
    generalize hMM : w1.heap.size = M at *
    have hgz0 := Lib.hid (gz_new (D := Sd [0]) hgw4.out hM4.out hs4.out hMz hsz3.out HCv.out 50)
    clear hgw4 hM4 hs4 HCv
    go_wp2_with fail
    generalize w3.alloc (.cells #[.slice A n c] 50) = w4 at *
    generalize w3.heap.size = C at *
    go_loopg [] (N - 1) (fun f wr => ∃ (j : Nat) (D : DataW Unit) (v : Value) (nn : Nat), j + f = N - 1 ∧ nn ≤ 2 * j + 1 ∧ Mg D (grS x y cs j).1 (j + 1) ∧ GZ W x y A cs M b C nn D j v (grS x y cs j).2 wr)
    case atStart => exact ⟨0, Sd [0], _, 1, by omega, by omega, HIn.out.1, by rw [HIn.out.2]; exact hgz0.out⟩
    case round =>
      clear hgz0 HIn hMz hsz3
      obtain ⟨j, D, v, nn, hj, hnn, hmg0, hgz0⟩ := hrel
      have hgz := Lib.hid hgz0
      have hmg := Lib.hid hmg0
      have Hj := Lib.hid hj
      clear hgz0 hmg0 hj
      have hj0 : (0 : Int) ≤ (j : Int) := Int.natCast_nonneg _
      obtain ⟨⟨b0, b1⟩, -⟩ := hgz.out.1.2.1
      by_cases hjN : j + 1 < N
      · have hi1 : (j : Int) + 1 < (N : Int) := by omega
        have hi2 : ((j + 1 : Nat) : Int) < (N : Int) := by omega
        obtain ⟨hpos, g, hg, hgG, hgne⟩ := HPos.out j hjN
        have HNx := Lib.hid (HSt.out j)
        rw [hg] at HNx
        have HPk := Lib.hid (pk_at (c := chZ cs j) hpos)
        rw [hg] at HPk
        have hpk := pk_lt (c := chZ cs j) hpos
        have hcr := crK_len x y (grS x y cs j).1 (gN x y)
        change (crL x y (grS x y cs j).1).length ≤ gN x y at hcr
        have hpe : (chZ cs j).toNat % (crL x y (grS x y cs j).1).length = pkN (crL x y (grS x y cs j).1) (chZ cs j) := by
          unfold pkN; rw [nx_rem (by omega)]; rfl
        have hIl := HLen.out j
        have Hne := Lib.hid hgne
        obtain ⟨hen, ha, hb'⟩ := HEn.out g hgG
        have HEg := Lib.hid hen
        have hgs : Hid (∀ I, enL x y I (g : Int) = (I.set (aN x y g) true).set (bN x y g) true) := Lib.hid fun I => rfl
        clear hg hen hgne HPos
        generalize hIo : grS x y cs j = s at *
        obtain ⟨I, o⟩ := s
        have HIo := Lib.hid hIo
        clear hIo
        simp only at hpos hpk hcr hpe hIl
        change Hid ((crL x y I)[pkN (crL x y I) (chZ cs j)]? = some (g : Int)) at HPk
        change Hid (grS x y cs (j + 1) = (enL x y I (g : Int), sgZ x y o (g : Int) true)) at HNx
        change Hid (GZ W x y A cs M b C nn D j v o wr) at hgz
        change Hid (Mg D I (j + 1)) at hmg
        change Hid (icB I (aN x y g) ≠ icB I (bN x y g)) at Hne
        have HNext := Lib.hid (fun (m : Nat) (X : World) hc hz hv h1 h2 => next_any C 0 j m W.heap.size cs v X hc hz hv h1 h2)
        have HMg2 : Hid (Mg ((D.put (.int .i64 ((aN x y g : Nat) : Int)) (.lit (.bool true))).put (.int .i64 ((bN x y g : Nat) : Int)) (.lit (.bool true))) (enL x y I (g : Int)) (j + 1 + 1)) := Lib.hid (by
          rw [hgs.out]; exact mg_two hmg.out (by omega) (by omega) Hne.out)
        have HMs := Lib.hid hmg.out.2.1
        have HGaj := Lib.hid (fun X h => HGa.out b nn D I (j + 1) X h hmg.out)
        have HSg1 := Lib.hid (fun X => HSg.out o g X)
        clear HGa HSg hmg Hne hgs HSt HLen hIl
        generalize crL x y I = L at *
        generalize hLn : L.length = ln at *
        have hLn' := Lib.hid hLn
        clear hLn
        have HNe2 : Hid (∀ (X : World), X.cell? ⟨C, 0, none⟩ = some v → X.frozen? ⟨C, 0, none⟩ = false → ChV X W.heap.size cs j v → Calls Try.prog 27 #[.pointer (some ⟨C, 0, none⟩), .int .i64 (ln : Int)] X fun e w' => e = .returned (.int .i64 ((pkN L (chZ cs j) : Nat) : Int)) ∧ NxP ⟨C, 0, none⟩ W.heap.size cs j v X w') := Lib.hid fun X h1 h2 h3 => by
          have := HNext.out ln X h1 h2 h3 (by omega) (by omega)
          rwa [hpe] at this
        clear HNext hpe
        generalize pkN L (chZ cs j) = pk at *
        go_wp2_with (at_len; refine ersD.len_at _ rfl _ 47 rfl 3 4 Try.underlying47 _ b _ _ rfl hgz.out.2.2.1 (j + 1) HMs.out ?_)
        refine (HC.out _).mono ?_
        rintro e w5 ⟨rfl, hb⟩
        have hgz5 := Lib.hid (hgz.out.call hb)
        clear hb hgz b0 b1
        obtain ⟨⟨b0, b1⟩, -⟩ := hgz5.out.1.2.1
        go_wp2_with fail
        refine (HGaj.out _ hgz5.out.2.2.1).mono ?_
        rintro e w6 ⟨v8, rfl, ho, hb⟩
        have hgz6 := Lib.hid (hgz5.out.call hb)
        obtain ⟨qg, cq, rfl, hq1, hq2⟩ := own_some ho (by have := hLn'.out; omega)
        have hcd := own_cellI ho HPk.out
        have hqC : qg ≠ C := by have := hgz5.out.lt; omega
        clear hb hgz5 ho b0 b1
        rw [hLn'.out]
        obtain ⟨c0, z0⟩ := one_cells hgz6.out.2.2.2.1
        have hp0 : (0 : Int) ≤ (pk : Int) := Int.natCast_nonneg _
        have hp1 : (pk : Int) < (ln : Int) := by omega
        go_wp2_with fail
        refine (HNe2.out _ c0 z0 hgz6.out.2.2.2.2.1).mono ?_
        rintro e w7 ⟨rfl, hx⟩
        obtain ⟨⟨v', hgz7'⟩, hst⟩ := hgz6.out.next hx
        have hcd7 := hst ⟨qg, pk, none⟩ _ hqC hcd
        have hgz7 := Lib.hid hgz7'
        clear hx hgz7' hst hcd c0 z0 hgz6
        obtain ⟨⟨m0, m1, m2⟩, f0, f1, f2⟩ := row3_cells hgz7.out.2.1
        go_wp2_with fail
        refine (HSg1.out _).mono ?_
        rintro e w8 ⟨rfl, hb⟩
        have hgz8 := Lib.hid (hgz7.out.call hb)
        clear hb hgz7 m0 m1 m2 f0 f1 f2 hcd7
        obtain ⟨⟨m0, m1, m2⟩, f0, f1, f2⟩ := row3_cells hgz8.out.2.1
        have hgz9 := Lib.hid (hgz8.out.put (sgZ x y o (g : Int) true))
        obtain ⟨⟨b0, b1⟩, -⟩ := hgz9.out.1.2.1
        generalize sgZ x y o (g : Int) true = o2 at *
        go_wp2_with fail
        refine (HEg.out _).mono ?_
        rintro e wA ⟨rfl, hb⟩
        have hgzA := Lib.hid (hgz9.out.call hb)
        clear hb hgz8 hgz9 m0 m1 m2 f0 f1 f2 b0 b1 HEg
        generalize enL x y I (g : Int) = I2 at *
        generalize aN x y g = ga at *
        generalize bN x y g = gb at *
        have hka := Lib.hid (key_int (show -9223372036854775808 ≤ (ga : Int) ∧ (ga : Int) ≤ 9223372036854775807 by omega))
        have hkb := Lib.hid (key_int (show -9223372036854775808 ≤ (gb : Int) ∧ (gb : Int) ≤ 9223372036854775807 by omega))
        go_wp2_with (first
          | (at_mapUpdate; refine wpList_mapUpdate_own _ rfl _ _ _ 47 rfl 3 4 lawI Try.underlying47 _ b nn _ rfl hgzA.out.2.2.1 (by unfold maxLen; omega) _ _ _ rfl rfl hka.out _ [] (plainElem_bool Try.underlying4 true) ?_; intro wB hown1 hgrow1; have hgzB := Lib.hid (hgzA.out.turn hown1 hgrow1); clear hown1 hgrow1 hgzA)
          | (at_mapUpdate; refine wpList_mapUpdate_own _ rfl _ _ _ 47 rfl 3 4 lawI Try.underlying47 _ b (nn + 1) _ rfl hgzB.out.2.2.1 (by unfold maxLen; omega) _ _ _ rfl rfl hkb.out _ [] (plainElem_bool Try.underlying4 true) ?_; intro wC hown1 hgrow1; have hgzC := Lib.hid (hgzB.out.turn hown1 hgrow1); clear hown1 hgrow1 hgzB))
        go_roundg (gk - 1)
        case measure => have := Hj.out; omega
        case rel => exact ⟨j + 1, _, _, nn + 1 + 1, by have := Hj.out; omega, by omega, by rw [HNx.out]; exact HMg2.out, by rw [HNx.out]; exact hgzC.out⟩
      · have HMs := Lib.hid hmg.out.2.1
        have hi1 : ¬ (j : Int) + 1 < (N : Int) := by omega
        have hi2 : ¬ ((j + 1 : Nat) : Int) < (N : Int) := by omega
        obtain rfl : j = N - 1 := by have := Hj.out; omega
        clear hmg HPos HSt HLen HEn HGa HSg
        generalize (grS x y cs (N - 1)).2 = o at *
        go_wp2_with (at_len; refine ersD.len_at _ rfl _ 47 rfl 3 4 Try.underlying47 _ b _ _ rfl hgz.out.2.2.1 (N - 1 + 1) HMs.out ?_)
        refine (HC.out _).mono ?_
        rintro e w5 ⟨rfl, hb⟩
        have hgz5 := Lib.hid (hgz.out.call hb)
        clear hb hgz b0 b1
        obtain ⟨⟨m0, m1, m2⟩, -⟩ := row3_cells hgz5.out.2.1
        obtain ⟨⟨e0, e1, e2⟩, f0, f1, f2⟩ := row3_cells hgz5.out.1.2.2.1
        go_wp2_with fail
        refine ret_set3 e0 e1 e2 fun Y g0 g1 g2 hY => ?_
        refine bodyPost_ret (v := .agg #[.int .i64 x, .int .i64 y, .int .i64 o]) (by simp [results, Try.results9, go_sem, g0, g1, g2]) rfl ?_
        subst hY
        exact ⟨rfl, hgz5.out.1.ending _ _ _⟩
  · have HG : Hid (∀ X, Calls Try.prog 23 #[.agg #[.int .i64 x, .int .i64 y]] X (Bl false X)) := Lib.hid fun X => ok_no x y X hk
    have HE : Hid (Mz 0 0 0 W = Mz (fmX x y) (fmY x y) (gmO x y cs) W) := Lib.hid (by
      unfold gmO fmX fmY; rw [if_neg hk, if_neg hk, if_neg hk])
    rw [← HE.out]
    clear hk HE HCv
    go_enter Try.func9, Try.ntmps9
    go_wp2_with fail
    have hgw0 := Lib.hid (HW.out 25 30)
    refine (HG.out _).mono ?_
    rintro e w1 ⟨rfl, hb⟩
    have hgw1 := Lib.hid (hgw0.out.call hb)
    clear hb HW hgw0 HG
    obtain ⟨⟨e0, e1, e2⟩, f0, f1, f2⟩ := row3_cells hgw1.out.2.2.1
    go_wp2_with fail
    refine bodyPost_ret (v := .agg #[.int .i64 0, .int .i64 0, .int .i64 0]) (by simp [results, Try.results9, go_sem, e0, e1, e2]) rfl ?_
    exact ⟨rfl, hgw1.out.ending _ _ _⟩
end Go.Proofs.Ythakbjdkcdppjaa.grwI
