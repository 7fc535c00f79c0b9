/- The contracts of the model's PopMaze and ArrowsUsed. -/
import Derived.Test.YtcoikcnijaniaaaPopN
import Derived.Test.YtcoikcnijaniaaaModD
import Derived.Deep.CutRange
namespace Go.Proofs.Ytcoikcnijaniaaa.popM
open Go.ChangeShapes Go.WideShapes Go.ChangeAt Go.RowKit
open draw gridP gridC gridE bitP mazeP mazeC mazeM mazeR mazeS intsP boolP reachP reachM reachN reachD intA intK listK rowsP wayP ersP ersO popP popO popN
open matQ (step_app below_step cells_int)
set_option linter.unusedVariables false
set_option linter.unusedSimpArgs false

/-- What a run makes, as three values. -/
def rnB (x y : Int) (ls : List (List Int)) (l : List Int) : Bool := (ppR x y ls l).isSome
def rnO (x y : Int) (ls : List (List Int)) (l : List Int) : Int := ((ppR x y ls l).getD (fun _ => 0, [], 0)).2.2
def rnT (x y : Int) (ls : List (List Int)) (l : List Int) : Int := if rnB x y ls l = true then ((tot ((ppR x y ls l).getD (fun _ => 0, [], 0)).1 ls.length : Nat) : Int) else 0
theorem pop_gen (x y : Int) (A : Option Addr) (n c : Nat) (ls : List (List Int)) (v : Value) (l : List Int) (b : Nat) (W : World) (hA : Ao x y ls) (hn : ls.length = n) (hl : ∀ u ∈ l, 0 ≤ u ∧ u < x * y) (hll : l.length ≤ 100) (hb : b ≤ W.heap.size) (hi : MxIn W b A ls) (ho : W.ownsRow b 3 1 v l.length (icells l)) :
    Calls Try.prog 74 #[.agg #[.int .i64 x, .int .i64 y], .slice A n c, v] W (fun e w' => ∃ z : Int, (rnB x y ls l = true → z = rnO x y ls l) ∧ e = .returned (.tuple #[.agg #[.int .i64 x, .int .i64 y, .int .i64 z], .int .i64 (rnT x y ls l), .bool (rnB x y ls l)]) ∧ Below b W w' ∧ W.grownBy w' v.ownBlock) := by
  refine (pop_any x y A n c ls v l v.ownBlock b W rfl hA hn hl hll hb hi ho).mono ?_
  rintro e w' ⟨⟨h1, h2⟩, ⟨t, L, o, hR, rfl⟩ | ⟨hR, z, rfl⟩⟩
  · exact ⟨o, fun _ => by unfold rnO; rw [hR]; rfl, by unfold rnT rnB; rw [hR]; rfl, h1, h2⟩
  · exact ⟨z, fun h => (by unfold rnB at h; rw [hR] at h; cases h), by unfold rnT rnB; rw [hR]; rfl, h1, h2⟩
theorem rn_facts {x y : Int} {ls : List (List Int)} {l : List Int} (hA : aoB x y ls = true) (hO : odB x y l = true) :
    poB x y ls l = rnB x y ls l ∧ pmX x y ls l = (if rnB x y ls l = true then x else 0) ∧ pmY x y ls l = (if rnB x y ls l = true then y else 0) ∧ pmO x y ls l = (if rnB x y ls l = true then rnO x y ls l else 0) ∧ auZ x y ls l = (if rnB x y ls l = true then rnT x y ls l else -1) := by
  have e : poB x y ls l = rnB x y ls l := by unfold poB rnB; rw [hA, hO]; rfl
  unfold pmX pmY pmO auZ rnO rnT
  rw [e]
  refine ⟨rfl, rfl, rfl, rfl, ?_⟩
  split <;> rfl

theorem od_yes {x y : Int} {l : List Int} (h : odB x y l = true) : l.length ≤ 100 ∧ ∀ u ∈ l, 0 ≤ u ∧ u < x * y := by
  unfold odB at h
  rw [Bool.and_eq_true] at h
  refine ⟨of_decide_eq_true h.1, fun u hu => ?_⟩
  have h2 := h.2
  rw [Bool.not_eq_true'] at h2
  have := List.any_eq_false.1 h2 u hu
  simpa using this
/-- What stands: the argument's box, the answer's block, the arrows, the order. -/
def BQ (W : World) (x y : Int) (A A2 : Option Addr) (ls : List (List Int)) (l : List Int) (X : World) : Prop :=
  Below W.heap.size W X ∧ Box W.heap.size x y X ∧ Row3 (W.heap.size + 1) 0 0 0 X ∧ MxIn X W.heap.size A ls ∧ IntsIn X W.heap.size A2 l
theorem BQ.call {W X X' : World} {x y : Int} {A A2 : Option Addr} {ls : List (List Int)} {l : List Int} (h : BQ W x y A A2 ls l X) (hb : Below X.heap.size X X') : BQ W x y A A2 ls l X' :=
  ⟨below_call h.1 hb, h.2.1.call hb, h.2.2.1.call hb, h.2.2.2.1.below (hb.mono h.1.size), h.2.2.2.2.below (hb.mono h.1.size)⟩
theorem BQ.cells {W X : World} {x y : Int} {A A2 : Option Addr} {ls : List (List Int)} {l : List Int} (h : BQ W x y A A2 ls l X) : X.cell? ⟨W.heap.size, 0, none⟩ = some (.int .i64 x) ∧ X.cell? ⟨W.heap.size, 1, none⟩ = some (.int .i64 y) := h.2.1.1
theorem bq_new {W : World} {x y : Int} {A A2 : Option Addr} {ls : List (List Int)} {l : List Int} (hi : MxIn W W.heap.size A ls) (hi2 : IntsIn W W.heap.size A2 l) (T T' : TypeId) : BQ W x y A A2 ls l ((W.alloc (.cells #[.int .i64 x, .int .i64 y] T)).alloc (.cells #[.int .i64 0, .int .i64 0, .int .i64 0] T')) := by
  have hb : Below W.heap.size W ((W.alloc (.cells #[.int .i64 x, .int .i64 y] T)).alloc (.cells #[.int .i64 0, .int .i64 0, .int .i64 0] T')) := ((Below.refl _ _).alloc (Nat.le_refl _) _).alloc (by simp) _
  refine ⟨hb, (box_new x y W T).call (below_box _ _), ?_, hi.below hb, hi2.below hb⟩
  have := row3_new 0 0 0 (W.alloc (.cells #[.int .i64 x, .int .i64 y] T)) T'
  simpa using this
/-- The argument's box alone. -/
def BX (W : World) (x y : Int) (A A2 : Option Addr) (ls : List (List Int)) (l : List Int) (X : World) : Prop :=
  Below W.heap.size W X ∧ Box W.heap.size x y X ∧ MxIn X W.heap.size A ls ∧ IntsIn X W.heap.size A2 l
theorem BX.call {W X X' : World} {x y : Int} {A A2 : Option Addr} {ls : List (List Int)} {l : List Int} (h : BX W x y A A2 ls l X) (hb : Below X.heap.size X X') : BX W x y A A2 ls l X' :=
  ⟨below_call h.1 hb, h.2.1.call hb, h.2.2.1.below (hb.mono h.1.size), h.2.2.2.below (hb.mono h.1.size)⟩
theorem BX.cells {W X : World} {x y : Int} {A A2 : Option Addr} {ls : List (List Int)} {l : List Int} (h : BX W x y A A2 ls l X) : X.cell? ⟨W.heap.size, 0, none⟩ = some (.int .i64 x) ∧ X.cell? ⟨W.heap.size, 1, none⟩ = some (.int .i64 y) := h.2.1.1
theorem bx_new {W : World} {x y : Int} {A A2 : Option Addr} {ls : List (List Int)} {l : List Int} (hi : MxIn W W.heap.size A ls) (hi2 : IntsIn W W.heap.size A2 l) (T : TypeId) : BX W x y A A2 ls l (W.alloc (.cells #[.int .i64 x, .int .i64 y] T)) :=
  ⟨below_box W _, box_new x y W T, hi.below (below_box W _), hi2.below (below_box W _)⟩

/-- While a copy of the order is handed over: S the world at the region's start, the copy so far, the answer's variable. -/
def LM (S : World) (ov : Option (Value × List Int)) (oP : Option Nat) (X : World) : Prop :=
  Below S.heap.size S X ∧ (∀ v l, ov = some (v, l) → X.ownsRow S.heap.size 3 1 v l.length (icells l)) ∧
  ∀ g, oP = some g → S.heap.size ≤ g ∧ X.heap[g]? = some (.cells #[.int .i64 0, .int .i64 0, .int .i64 0] 27 (0, 0))
theorem lm_new (S : World) : LM S none none S := ⟨Below.refl _ _, fun v l e => (by cases e), fun g e => (by cases e)⟩
theorem LM.call {S X X' : World} {ov : Option (Value × List Int)} {oP : Option Nat} (h : LM S ov oP X) (hb : Below X.heap.size X X') : LM S ov oP X' :=
  ⟨below_call h.1 hb, fun v l e => own_call (h.2.1 v l e) hb, fun g e => ⟨(h.2.2 g e).1, (hb.block g (Array.getElem?_eq_some_iff.1 (h.2.2 g e).2).1).trans (h.2.2 g e).2⟩⟩
theorem LM.dr {S X : World} {ov : Option (Value × List Int)} {oP : Option Nat} (h : LM S ov oP X) : LM S ov oP X.drew := h.call ⟨rfl, rfl, rfl, Nat.le_refl _, fun _ _ => rfl⟩
theorem LM.slice {S X : World} {oP : Option Nat} (h : LM S none oP X) : LM S (some (.slice (some ⟨X.heap.size, 0, none⟩) 0 0, [])) oP (X.alloc (.cells #[] 3)) := by
  have h0 := h.1.size
  obtain ⟨h1, h2, h3⟩ := h.call (below_box X (.cells #[] 3))
  refine ⟨h1, fun v l e => ?_, h3⟩
  obtain ⟨rfl, rfl⟩ : .slice (some ⟨X.heap.size, 0, none⟩) 0 0 = v ∧ [] = l := by cases e; exact ⟨rfl, rfl⟩
  exact World.ownsRow_lit (base := S.heap.size) (e := 3) (size := 1) X #[] 0 h0 (by decide) rfl
theorem LM.own {S X : World} {v : Value} {l : List Int} {oP : Option Nat} (h : LM S (some (v, l)) oP X) : X.ownsRow S.heap.size 3 1 v l.length (icells l) := h.2.1 v l rfl
theorem LM.app {S X X' : World} {v v' : Value} {l l' : List Int} {oP : Option Nat} (h : LM S (some (v, l)) oP X) (ho : X'.ownsRow S.heap.size 3 1 v' l'.length (icells l')) (hg : X.grownBy X' v.ownBlock) : LM S (some (v', l')) oP X' := by
  have hw := h.own
  obtain ⟨h1, h2, h3⟩ := h
  refine ⟨h1.grown hg h1.size fun g e => (hw.lt g e).1, fun w l e => by cases e; exact ho, fun g e => ⟨(h3 g e).1, ?_⟩⟩
  have hc := (h3 g e).2
  rw [← hc]
  refine hg.block g (Array.getElem?_eq_some_iff.1 hc).1 fun e' => ?_
  rcases hw.2 with ⟨q, -⟩ | ⟨g', cap', cur, q, _, hh, _⟩
  · rw [q] at e'; cases e'
  · rw [q] at e'
    have e2 : g = g' := Option.some.inj e'
    subst e2
    rw [hc] at hh
    have := Option.some.inj hh
    injection this with _ hT _
    exact absurd hT (by decide)
theorem LM.pop {S X : World} {ov : Option (Value × List Int)} (h : LM S ov none X) : LM S ov (some X.heap.size) (X.alloc (.cells #[.int .i64 0, .int .i64 0, .int .i64 0] 27)) := by
  have h0 := h.1.size
  obtain ⟨h1, h2, h3⟩ := h.call (below_box X (.cells #[.int .i64 0, .int .i64 0, .int .i64 0] 27))
  exact ⟨h1, h2, fun g e => by cases e; exact ⟨h0, heap_alloc_new X _⟩⟩
/-- The call on the copy. -/
theorem LM.run {S X X' : World} {v : Value} {l : List Int} {oP : Option Nat} (h : LM S (some (v, l)) oP X) (hg : X.grownBy X' v.ownBlock) : LM S none oP X' := by
  have hw := h.own
  obtain ⟨h1, h2, h3⟩ := h
  refine ⟨h1.grown hg h1.size fun g e => (hw.lt g e).1, fun w l e => (by cases e), fun g e => ⟨(h3 g e).1, ?_⟩⟩
  have hc := (h3 g e).2
  rw [← hc]
  refine hg.block g (Array.getElem?_eq_some_iff.1 hc).1 fun e' => ?_
  rcases hw.2 with ⟨q, -⟩ | ⟨g', cap', cur, q, _, hh, _⟩
  · rw [q] at e'; cases e'
  · rw [q] at e'
    have e2 : g = g' := Option.some.inj e'
    subst e2
    rw [hc] at hh
    have := Option.some.inj hh
    injection this with _ hT _
    exact absurd hT (by decide)
theorem LM.zero {S X : World} {ov : Option (Value × List Int)} {P : Nat} (h : LM S ov (some P) X) : Row3 P 0 0 0 X := ⟨_, (h.2.2 P rfl).2⟩
theorem LM.done {S X : World} {ov : Option (Value × List Int)} {P : Nat} {x y z : Int} (h : LM S ov (some P) X) :
    Row3 P x y z (((X.setCell ⟨P, 0, none⟩ (.int .i64 x)).setCell ⟨P, 1, none⟩ (.int .i64 y)).setCell ⟨P, 2, none⟩ (.int .i64 z)) ∧ Below S.heap.size S (((X.setCell ⟨P, 0, none⟩ (.int .i64 x)).setCell ⟨P, 1, none⟩ (.int .i64 y)).setCell ⟨P, 2, none⟩ (.int .i64 z)) := by
  refine ⟨row3_w h.zero, ?_⟩
  have h2 := (h.2.2 P rfl).1
  exact h.1.grown (grown_set (grown_set (grown_one X _ _ _) _) _) h.1.size fun g e => by cases e; exact h2
theorem LM.made {S X : World} {ov : Option (Value × List Int)} {oP : Option Nat} {P : Nat} {x y z : Int} {T : TypeId} (h : LM S ov oP X) (hP : X.heap.size = P) :
    Row3 P x y z (X.alloc (.cells #[.int .i64 x, .int .i64 y, .int .i64 z] T)) ∧ Below S.heap.size S (X.alloc (.cells #[.int .i64 x, .int .i64 y, .int .i64 z] T)) := by
  subst hP
  exact ⟨row3_new x y z X T, (h.call (below_box X _)).1⟩

set_option maxRecDepth 100000 in
set_option maxHeartbeats 8000000 in
theorem popMaze_any (x y : Int) (A : Option Addr) (n c : Nat) (ls : List (List Int)) (A2 : Option Addr) (n2 c2 : Nat) (l : List Int) (W : World) (hn : ls.length = n) (hm : n ≤ 1048576) (hl : ∀ l ∈ ls, l.length ≤ 1048576) (hi : MxIn W W.heap.size A ls) (hn2 : l.length = n2) (hm2 : n2 ≤ 1048576) (hi2 : IntsIn W W.heap.size A2 l) :
    Calls Try.prog 36 #[.agg #[.int .i64 x, .int .i64 y], .slice A n c, .slice A2 n2 c2] W (MzB (pmX x y ls l) (pmY x y ls l) (pmO x y ls l) (poB x y ls l) W) := by
  have HQ0 := Lib.hid (fun T T' => @bq_new W x y A A2 ls l hi hi2 T T')
  have HAo := Lib.hid (fun X hi => arrowsOk_any x y A n c ls X hn hm hl hi)
  have HK0 : Hid (poB x y ls l = false → ∀ w', Below W.heap.size W w' → MzB (pmX x y ls l) (pmY x y ls l) (pmO x y ls l) (poB x y ls l) W (.returned (.tuple #[.agg #[.int .i64 0, .int .i64 0, .int .i64 0], .bool false])) w') := Lib.hid fun h w' hb => by
    obtain ⟨h1, h2, h3, -⟩ := pm_bad h
    rw [h1, h2, h3, h]; exact ⟨rfl, hb⟩
  by_cases hA : aoB x y ls = true
  · have hAo := ao_iff.1 hA
    have HOd := Lib.hid (fun X hi => order_any x y A2 n2 c2 l X hAo.1 hn2 hm2 hi)
    rw [hA] at HAo
    cases hO : odB x y l with
    | false =>
      rw [hO] at HOd
      have HK := Lib.hid (HK0.out (po_no (.inr (.inl hO))))
      clear hi hi2 hn hn2 hl hA hAo hO HK0
      generalize pmX x y ls l = r1 at *
      generalize pmY x y ls l = r2 at *
      generalize pmO x y ls l = r3 at *
      generalize poB x y ls l = r4 at *
      go_enter Try.func36, Try.ntmps36
      have Hq0 := Lib.hid (HQ0.out 25 27)
      clear HQ0
      go_wp2_with fail
      refine (HAo.out _ (Hq0.out.2.2.2.1.more Hq0.out.1.size)).mono ?_
      rintro e w1 ⟨rfl, hb⟩
      have Hq1 := Lib.hid (Hq0.out.call hb)
      clear hb Hq0 HAo
      obtain ⟨c0, c1⟩ := BQ.cells Hq1.out
      go_wp2_with fail
      refine (HOd.out _ (Hq1.out.2.2.2.2.more Hq1.out.1.size)).mono ?_
      rintro e w2 ⟨rfl, hb⟩
      have Hq2 := Lib.hid (Hq1.out.call hb)
      clear hb Hq1 HOd c0 c1
      obtain ⟨⟨e0, e1, e2⟩, f0, f1, f2⟩ := row3_cells Hq2.out.2.2.1
      go_wp2_with fail
      refine ret_set3 e0 e1 e2 fun Y g0 g1 g2 hY => ?_
      exact bodyPost_ret (v := .tuple #[.agg #[.int .i64 0, .int .i64 0, .int .i64 0], .bool false]) (by simp [results, Try.results36, go_sem, g0, g1, g2]) rfl (HK.out Y (below_set3b Hq2.out.1 (by omega) hY))
    | true =>
      rw [hO] at HOd
      obtain ⟨r1, r2, r3, r4, r5⟩ := rn_facts hA hO
      obtain ⟨hl100, hlr⟩ : l.length ≤ 100 ∧ ∀ u ∈ l, 0 ≤ u ∧ u < x * y := od_yes hO
      have HPop := Lib.hid (fun (v : Value) (b : Nat) (X : World) (h1 : b ≤ X.heap.size) (h2 : MxIn X b A ls) (h3 : X.ownsRow b 3 1 v l.length (icells l)) => pop_gen x y A n c ls v l b X hAo hn hlr hl100 h1 h2 h3)
      have HK1 : Hid (rnB x y ls l = true → ∀ w', Below W.heap.size W w' → MzB (pmX x y ls l) (pmY x y ls l) (pmO x y ls l) (poB x y ls l) W (.returned (.tuple #[.agg #[.int .i64 x, .int .i64 y, .int .i64 (rnO x y ls l)], .bool true])) w') := Lib.hid fun h w' hb => by
        rw [r2, r3, r4, r1, h, if_pos rfl, if_pos rfl, if_pos rfl]; exact ⟨rfl, hb⟩
      have HK2 : Hid (rnB x y ls l = false → ∀ w', Below W.heap.size W w' → MzB (pmX x y ls l) (pmY x y ls l) (pmO x y ls l) (poB x y ls l) W (.returned (.tuple #[.agg #[.int .i64 0, .int .i64 0, .int .i64 0], .bool false])) w') := Lib.hid fun h => HK0.out (by rw [r1]; exact h)
      obtain ⟨i0, hi0, hz0, hz1, hz2⟩ := info_parts info_int
      have Hn2 := Lib.hid hn2
      clear hi hi2 hn hn2 hl hA hAo hO HK0 r1 r2 r3 r4 r5 hlr
      generalize pmX x y ls l = r1 at *
      generalize pmY x y ls l = r2 at *
      generalize pmO x y ls l = r3 at *
      generalize poB x y ls l = r4 at *
      generalize rnB x y ls l = rb at *
      generalize rnO x y ls l = ro at *
      generalize rnT x y ls l = rt at *
      go_enter Try.func36, Try.ntmps36
      have Hq0 := Lib.hid (HQ0.out 25 27)
      clear HQ0
      go_wp2_with fail
      refine (HAo.out _ (Hq0.out.2.2.2.1.more Hq0.out.1.size)).mono ?_
      rintro e w1 ⟨rfl, hb⟩
      have Hq1 := Lib.hid (Hq0.out.call hb)
      clear hb Hq0 HAo
      obtain ⟨c0, c1⟩ := BQ.cells Hq1.out
      go_wp2_with fail
      refine (HOd.out _ (Hq1.out.2.2.2.2.more Hq1.out.1.size)).mono ?_
      rintro e w2 ⟨rfl, hb⟩
      have Hq2 := Lib.hid (Hq1.out.call hb)
      clear hb Hq1 HOd c0 c1
      have hws := Hq2.out.1.size
      obtain ⟨c0, c1⟩ := BQ.cells Hq2.out
      go_wp2_with fail
      go_cut [8, 9, 10] from 22 to 31 (fun u8 u9 u10 wx => ∃ (P : Nat) (z : Int), u8 = .pointer (some ⟨P, 0, none⟩) ∧ u9 = .int .i64 rt ∧ u10 = .bool rb ∧ (rb = true → z = ro) ∧ Row3 P x y z wx ∧ BQ W x y A A2 ls l wx)
      case first =>
        have hL := Lib.hid (lm_new w2).dr
        cases A2 with
        | none =>
          have hle : l = [] := by
            rcases List.eq_nil_or_concat l with h | ⟨_, _, h⟩
            · exact h
            · exact absurd (Hq2.out.2.2.2.2 (by rw [h]; simp)) (by rintro ⟨_, h, _⟩; cases h)
          subst hle
          obtain rfl : n2 = 0 := by have := Hn2.out; simpa using this.symm
          try simp only [List.cons_append, List.nil_append, List.append_eq]
          refine wp_region_held_drew (S := (fun w' => w'.cell? ⟨W.heap.size, 0, none⟩ = some (.int .i64 x) ∧ w'.cell? ⟨W.heap.size, 1, none⟩ = some (.int .i64 y))) (by kernel_rfl) ?_ (fun hHeld0 => ?_)
          · (try dsimp only); (first | go_keep | exact BQ.cells (BQ.call Hq2.out hL.out.1))
          refine wpAnyH_take (i := 0) (oi := { dst := some 23, op := Go.Op.load 25 (Go.Operand.tmp 3), type := 25, pos := "l15_stack.go:73", after := #[], guard := none }) (v := ?_) rfl (by kernel_rfl) (by kernel_rfl) (by kernel_rfl) (fun _ _ _ h => h) (Or.inl ⟨by rfl, ?_⟩) (by assumption) ?_
          rotate_left
          · (intro w hSw; (try dsimp only at hSw); go_simp; try with_reducible rfl)
          try simp only [Act.put, List.setIfInBounds_toArray, List.set_cons_zero, List.set_cons_succ]
          refine wpAnyH_take (i := 1) (oi := { dst := some 24, op := Go.Op.move (Go.Operand.tmp 1), type := 37, pos := "l15_stack.go:73", after := #[], guard := none }) (v := ?_) rfl (by kernel_rfl) (by kernel_rfl) (by kernel_rfl) (fun _ _ _ h => h) (Or.inl ⟨by rfl, ?_⟩) (by assumption) ?_
          rotate_left
          · (intro w hSw; (try dsimp only at hSw); go_simp; try with_reducible rfl)
          try simp only [Act.put, List.setIfInBounds_toArray, List.set_cons_zero, List.set_cons_succ]
          refine wpAnyH_take (i := 3) (oi := { dst := some 26, op := Go.Op.move (Go.Operand.tmp 2), type := 32, pos := "l15_stack.go:73", after := #[], guard := none }) (v := ?_) rfl (by kernel_rfl) (by kernel_rfl) (by kernel_rfl) (fun _ _ _ h => h) (Or.inl ⟨by rfl, ?_⟩) (by assumption) ?_
          rotate_left
          · (intro w hSw; (try dsimp only at hSw); go_simp; try with_reducible rfl)
          try simp only [Act.put, List.setIfInBounds_toArray, List.set_cons_zero, List.set_cons_succ]
          refine wpAnyH_ready (rs := [2, 10]) (by kernel_rfl) (by simp) ?_
          refine (AllReadyH.cons (o := { dst := some 25, op := Go.Op.buildSlice 32 0 #[], type := 32, pos := "l15_stack.go:73", after := #[], guard := none }) rfl (fun K2 hK2 => ?_) (AllReadyH.cons (o := { dst := some 8, op := Go.Op.alloc 27, type := 0, pos := "l15_stack.go:73", after := #[], guard := none }) rfl (fun K10 hK10 => ?_) AllReadyH.nil))
          · as_aux_lemma =>
              (go_simp; have q := LM.slice hL.out; (try simp only [World.size_alloc, World.size_drew] at q); replace hL := Lib.hid q; clear q)
              refine hK2.out _ _ ?_ (fun hHeld1 => ?_)
              · (try dsimp only); (first | go_keep | exact BQ.cells (BQ.call Hq2.out hL.out.1))
              clear hK2 K2 hHeld0
              try simp only [Act.put, List.setIfInBounds_toArray, List.set_cons_zero, List.set_cons_succ]
              refine wpAnyH_ready (rs := [4, 10]) (by kernel_rfl) (by simp) ?_
              refine (AllReadyH.cons (o := { dst := some 27, op := Go.Op.call { callee := Go.Callee.builtin Go.Builtin.append, args := #[Go.Operand.tmp 25, Go.Operand.tmp 26], argTypes := #[32, 32] }, type := 32, pos := "l15_stack.go:73", after := #[{ on := 2, ground := Go.Ground.data }, { on := 3, ground := Go.Ground.data }], guard := none }) rfl (fun K4 hK4 => ?_) (AllReadyH.cons (o := { dst := some 8, op := Go.Op.alloc 27, type := 0, pos := "l15_stack.go:73", after := #[], guard := none }) rfl (fun K10 hK10 => ?_) AllReadyH.nil))
              · as_aux_lemma =>
                  go_simp
                  refine hK4.out _ _ ?_ (fun hHeld2 => ?_)
                  · (try dsimp only); (first | go_keep | exact BQ.cells (BQ.call Hq2.out hL.out.1))
                  clear hK4 K4 hHeld1
                  try simp only [Act.put, List.setIfInBounds_toArray, List.set_cons_zero, List.set_cons_succ]
                  refine wpAnyH_ready (rs := [5, 10]) (by kernel_rfl) (by simp) ?_
                  refine (AllReadyH.cons (o := { dst := some 28, op := Go.Op.call { callee := Go.Callee.value (Go.Operand.func 74), args := #[Go.Operand.tmp 23, Go.Operand.tmp 24, Go.Operand.tmp 27], argTypes := #[25, 37, 32] }, type := 89, pos := "l15_stack.go:73", after := #[{ on := 0, ground := Go.Ground.data }, { on := 1, ground := Go.Ground.data }, { on := 4, ground := Go.Ground.data }, { on := 4, ground := Go.Ground.chain }], guard := none }) rfl (fun K5 hK5 => ?_) (AllReadyH.cons (o := { dst := some 8, op := Go.Op.alloc 27, type := 0, pos := "l15_stack.go:73", after := #[], guard := none }) rfl (fun K10 hK10 => ?_) AllReadyH.nil))
                  · as_aux_lemma =>
                      go_simp
                      (refine (HPop.out _ w2.heap.size _ hL.out.1.size (MxIn.more (Hq2.out.call hL.out.1).2.2.2.1 hws) (LM.own hL.out)).mono ?_; rintro e v1 ⟨z, hz', rfl, hb, hg⟩; have q := LM.run hL.out hg; replace hL := Lib.hid q; obtain ⟨d0, d1⟩ := BQ.cells (BQ.call Hq2.out q.1); clear q hb hg)
                      go_wp2_with fail
                      refine hK5.out _ _ ?_ (fun hHeld3 => ?_)
                      · (try dsimp only); (first | go_keep | exact BQ.cells (BQ.call Hq2.out hL.out.1))
                      clear hK5 K5 hHeld2
                      try simp only [Act.put, List.setIfInBounds_toArray, List.set_cons_zero, List.set_cons_succ]
                      refine wpAnyH_take (i := 6) (oi := { dst := some 22, op := Go.Op.move (Go.Operand.tmp 28), type := 89, pos := "l15_stack.go:73", after := #[{ on := 5, ground := Go.Ground.data }], guard := none }) (v := ?_) rfl (by kernel_rfl) (by kernel_rfl) (by kernel_rfl) (fun _ _ _ h => h) (Or.inl ⟨by rfl, ?_⟩) (by assumption) ?_
                      rotate_left
                      · (intro w hSw; (try dsimp only at hSw); go_simp; try with_reducible rfl)
                      try simp only [Act.put, List.setIfInBounds_toArray, List.set_cons_zero, List.set_cons_succ]
                      refine wpAnyH_take (i := 7) (oi := { dst := some 29, op := Go.Op.extract (Go.Operand.tmp 22) 0, type := 27, pos := "l15_stack.go:73", after := #[{ on := 6, ground := Go.Ground.data }], guard := none }) (v := ?_) rfl (by kernel_rfl) (by kernel_rfl) (by kernel_rfl) (fun _ _ _ h => h) (Or.inl ⟨by rfl, ?_⟩) (by assumption) ?_
                      rotate_left
                      · (intro w hSw; (try dsimp only at hSw); go_simp; try with_reducible rfl)
                      try simp only [Act.put, List.setIfInBounds_toArray, List.set_cons_zero, List.set_cons_succ]
                      refine wpAnyH_take (i := 8) (oi := { dst := some 30, op := Go.Op.extract (Go.Operand.tmp 22) 1, type := 3, pos := "l15_stack.go:73", after := #[{ on := 6, ground := Go.Ground.data }, { on := 11, ground := Go.Ground.gcOnly Go.Departure.lateStores }], guard := none }) (v := ?_) rfl (by kernel_rfl) (by kernel_rfl) (by kernel_rfl) (fun _ _ _ h => h) (Or.inl ⟨by rfl, ?_⟩) (by assumption) ?_
                      rotate_left
                      · (intro w hSw; (try dsimp only at hSw); go_simp; try with_reducible rfl)
                      try simp only [Act.put, List.setIfInBounds_toArray, List.set_cons_zero, List.set_cons_succ]
                      refine wpAnyH_take (i := 9) (oi := { dst := some 31, op := Go.Op.extract (Go.Operand.tmp 22) 2, type := 4, pos := "l15_stack.go:73", after := #[{ on := 6, ground := Go.Ground.data }, { on := 12, ground := Go.Ground.gcOnly Go.Departure.lateStores }], guard := none }) (v := ?_) rfl (by kernel_rfl) (by kernel_rfl) (by kernel_rfl) (fun _ _ _ h => h) (Or.inl ⟨by rfl, ?_⟩) (by assumption) ?_
                      rotate_left
                      · (intro w hSw; (try dsimp only at hSw); go_simp; try with_reducible rfl)
                      try simp only [Act.put, List.setIfInBounds_toArray, List.set_cons_zero, List.set_cons_succ]
                      refine wpAnyH_ready (rs := [10]) (by kernel_rfl) (by simp) ?_
                      refine AllReadyH.cons (o := { dst := some 8, op := Go.Op.alloc 27, type := 0, pos := "l15_stack.go:73", after := #[], guard := none }) rfl (fun K10 hK10 => ?_) AllReadyH.nil
                      (go_simp; have hLo := hL; have q := LM.pop hL.out; (try simp only [World.size_alloc, World.size_drew] at q); replace hL := Lib.hid q; clear q)
                      refine hK10.out _ _ ?_ (fun hHeld4 => ?_)
                      · (try dsimp only); (first | go_keep | exact BQ.cells (BQ.call Hq2.out hL.out.1))
                      clear hK10 K10 hHeld3
                      try simp only [Act.put, List.setIfInBounds_toArray, List.set_cons_zero, List.set_cons_succ]
                      refine wpAnyH_ready (rs := [11]) (by kernel_rfl) (by simp) ?_
                      refine AllReadyH.cons (o := { dst := none, op := Go.Op.store 27 (Go.Operand.tmp 8) (Go.Operand.tmp 29), type := 0, pos := "l15_stack.go:73", after := #[{ on := 10, ground := Go.Ground.data }, { on := 7, ground := Go.Ground.data }, { on := 5, ground := Go.Ground.chain }, { on := 0, ground := Go.Ground.phase }, { on := 1, ground := Go.Ground.phase }, { on := 2, ground := Go.Ground.phase }, { on := 3, ground := Go.Ground.phase }, { on := 4, ground := Go.Ground.phase }, { on := 5, ground := Go.Ground.phase }, { on := 6, ground := Go.Ground.phase }, { on := 7, ground := Go.Ground.phase }, { on := 8, ground := Go.Ground.textOnly Go.Departure.lateStores }, { on := 9, ground := Go.Ground.textOnly Go.Departure.lateStores }, { on := 10, ground := Go.Ground.phase }], guard := none }) rfl (fun K11 hK11 => ?_) AllReadyH.nil
                      (obtain ⟨⟨y0, y1, y2⟩, f0, f1, f2⟩ := row3_cells (LM.zero hL.out); go_simp)
                      refine hK11.out _ _ ?_ (fun hHeld5 => ?_)
                      · (try dsimp only); (first | with_reducible exact BQ.cells (BQ.call Hq2.out (LM.done (x := x) (y := y) (z := z) hL.out).2) | with_reducible exact BQ.cells (BQ.call Hq2.out (LM.made (x := x) (y := y) (z := z) hLo.out rfl).2))
                      clear hK11 K11 hHeld4
                      try simp only [Act.put]
                      refine wpAnyH_take (i := 12) (oi := { dst := some 9, op := Go.Op.assign (Go.Operand.tmp 30), type := 3, pos := "l15_stack.go:73", after := #[{ on := 8, ground := Go.Ground.data }, { on := 11, ground := Go.Ground.chain }, { on := 0, ground := Go.Ground.phase }, { on := 1, ground := Go.Ground.phase }, { on := 2, ground := Go.Ground.phase }, { on := 3, ground := Go.Ground.phase }, { on := 4, ground := Go.Ground.phase }, { on := 5, ground := Go.Ground.phase }, { on := 6, ground := Go.Ground.phase }, { on := 7, ground := Go.Ground.phase }, { on := 8, ground := Go.Ground.phase }, { on := 9, ground := Go.Ground.textOnly Go.Departure.lateStores }, { on := 10, ground := Go.Ground.phase }, { on := 11, ground := Go.Ground.phase }], guard := none }) (v := ?_) rfl (by kernel_rfl) (by kernel_rfl) (by kernel_rfl) (fun _ _ _ h => h) (Or.inl ⟨by rfl, ?_⟩) (by assumption) ?_
                      rotate_left
                      · (intro w hSw; (try dsimp only at hSw); go_simp; try with_reducible rfl)
                      try simp only [Act.put, List.setIfInBounds_toArray, List.set_cons_zero, List.set_cons_succ]
                      refine wpAnyH_take (i := 13) (oi := { dst := some 10, op := Go.Op.assign (Go.Operand.tmp 31), type := 4, pos := "l15_stack.go:73", after := #[{ on := 9, ground := Go.Ground.data }, { on := 12, ground := Go.Ground.chain }, { on := 0, ground := Go.Ground.phase }, { on := 1, ground := Go.Ground.phase }, { on := 2, ground := Go.Ground.phase }, { on := 3, ground := Go.Ground.phase }, { on := 4, ground := Go.Ground.phase }, { on := 5, ground := Go.Ground.phase }, { on := 6, ground := Go.Ground.phase }, { on := 7, ground := Go.Ground.phase }, { on := 8, ground := Go.Ground.phase }, { on := 9, ground := Go.Ground.phase }, { on := 10, ground := Go.Ground.phase }, { on := 11, ground := Go.Ground.phase }, { on := 12, ground := Go.Ground.phase }], guard := none }) (v := ?_) rfl (by kernel_rfl) (by kernel_rfl) (by kernel_rfl) (fun _ _ _ h => h) (Or.inl ⟨by rfl, ?_⟩) (by assumption) ?_
                      rotate_left
                      · (intro w hSw; (try dsimp only at hSw); go_simp; try with_reducible rfl)
                      try simp only [Act.put, List.setIfInBounds_toArray, List.set_cons_zero, List.set_cons_succ]
                      refine wpAnyH_done (by kernel_rfl) ?_ _
                      (go_wp2_with fail; go_meet; first | (with_reducible exact ⟨_, z, rfl, rfl, rfl, hz', (LM.done hL.out).1, BQ.call Hq2.out (LM.done hL.out).2⟩) | (with_reducible exact ⟨_, z, rfl, rfl, rfl, hz', (LM.made hLo.out (by simp)).1, BQ.call Hq2.out (LM.made hLo.out rfl).2⟩) | (trace_state; sorry))
                  · as_aux_lemma =>
                      (go_simp; have hLo := hL; have q := LM.pop hL.out; (try simp only [World.size_alloc, World.size_drew] at q); replace hL := Lib.hid q; clear q)
                      refine hK10.out _ _ ?_ (fun hHeld3 => ?_)
                      · (try dsimp only); (first | go_keep | exact BQ.cells (BQ.call Hq2.out hL.out.1))
                      clear hK10 K10 hHeld2
                      try simp only [Act.put, List.setIfInBounds_toArray, List.set_cons_zero, List.set_cons_succ]
                      refine wpAnyH_ready (rs := [5]) (by kernel_rfl) (by simp) ?_
                      refine AllReadyH.cons (o := { dst := some 28, op := Go.Op.call { callee := Go.Callee.value (Go.Operand.func 74), args := #[Go.Operand.tmp 23, Go.Operand.tmp 24, Go.Operand.tmp 27], argTypes := #[25, 37, 32] }, type := 89, pos := "l15_stack.go:73", after := #[{ on := 0, ground := Go.Ground.data }, { on := 1, ground := Go.Ground.data }, { on := 4, ground := Go.Ground.data }, { on := 4, ground := Go.Ground.chain }], guard := none }) rfl (fun K5 hK5 => ?_) AllReadyH.nil
                      go_simp
                      (refine (HPop.out _ w2.heap.size _ hL.out.1.size (MxIn.more (Hq2.out.call hL.out.1).2.2.2.1 hws) (LM.own hL.out)).mono ?_; rintro e v1 ⟨z, hz', rfl, hb, hg⟩; have q := LM.run hL.out hg; replace hL := Lib.hid q; obtain ⟨d0, d1⟩ := BQ.cells (BQ.call Hq2.out q.1); clear q hb hg)
                      go_wp2_with fail
                      refine hK5.out _ _ ?_ (fun hHeld4 => ?_)
                      · (try dsimp only); (first | go_keep | exact BQ.cells (BQ.call Hq2.out hL.out.1))
                      clear hK5 K5 hHeld3
                      try simp only [Act.put, List.setIfInBounds_toArray, List.set_cons_zero, List.set_cons_succ]
                      refine wpAnyH_take (i := 6) (oi := { dst := some 22, op := Go.Op.move (Go.Operand.tmp 28), type := 89, pos := "l15_stack.go:73", after := #[{ on := 5, ground := Go.Ground.data }], guard := none }) (v := ?_) rfl (by kernel_rfl) (by kernel_rfl) (by kernel_rfl) (fun _ _ _ h => h) (Or.inl ⟨by rfl, ?_⟩) (by assumption) ?_
                      rotate_left
                      · (intro w hSw; (try dsimp only at hSw); go_simp; try with_reducible rfl)
                      try simp only [Act.put, List.setIfInBounds_toArray, List.set_cons_zero, List.set_cons_succ]
                      refine wpAnyH_take (i := 7) (oi := { dst := some 29, op := Go.Op.extract (Go.Operand.tmp 22) 0, type := 27, pos := "l15_stack.go:73", after := #[{ on := 6, ground := Go.Ground.data }], guard := none }) (v := ?_) rfl (by kernel_rfl) (by kernel_rfl) (by kernel_rfl) (fun _ _ _ h => h) (Or.inl ⟨by rfl, ?_⟩) (by assumption) ?_
                      rotate_left
                      · (intro w hSw; (try dsimp only at hSw); go_simp; try with_reducible rfl)
                      try simp only [Act.put, List.setIfInBounds_toArray, List.set_cons_zero, List.set_cons_succ]
                      refine wpAnyH_take (i := 8) (oi := { dst := some 30, op := Go.Op.extract (Go.Operand.tmp 22) 1, type := 3, pos := "l15_stack.go:73", after := #[{ on := 6, ground := Go.Ground.data }, { on := 11, ground := Go.Ground.gcOnly Go.Departure.lateStores }], guard := none }) (v := ?_) rfl (by kernel_rfl) (by kernel_rfl) (by kernel_rfl) (fun _ _ _ h => h) (Or.inl ⟨by rfl, ?_⟩) (by assumption) ?_
                      rotate_left
                      · (intro w hSw; (try dsimp only at hSw); go_simp; try with_reducible rfl)
                      try simp only [Act.put, List.setIfInBounds_toArray, List.set_cons_zero, List.set_cons_succ]
                      refine wpAnyH_take (i := 9) (oi := { dst := some 31, op := Go.Op.extract (Go.Operand.tmp 22) 2, type := 4, pos := "l15_stack.go:73", after := #[{ on := 6, ground := Go.Ground.data }, { on := 12, ground := Go.Ground.gcOnly Go.Departure.lateStores }], guard := none }) (v := ?_) rfl (by kernel_rfl) (by kernel_rfl) (by kernel_rfl) (fun _ _ _ h => h) (Or.inl ⟨by rfl, ?_⟩) (by assumption) ?_
                      rotate_left
                      · (intro w hSw; (try dsimp only at hSw); go_simp; try with_reducible rfl)
                      try simp only [Act.put, List.setIfInBounds_toArray, List.set_cons_zero, List.set_cons_succ]
                      refine wpAnyH_ready (rs := [11]) (by kernel_rfl) (by simp) ?_
                      refine AllReadyH.cons (o := { dst := none, op := Go.Op.store 27 (Go.Operand.tmp 8) (Go.Operand.tmp 29), type := 0, pos := "l15_stack.go:73", after := #[{ on := 10, ground := Go.Ground.data }, { on := 7, ground := Go.Ground.data }, { on := 5, ground := Go.Ground.chain }, { on := 0, ground := Go.Ground.phase }, { on := 1, ground := Go.Ground.phase }, { on := 2, ground := Go.Ground.phase }, { on := 3, ground := Go.Ground.phase }, { on := 4, ground := Go.Ground.phase }, { on := 5, ground := Go.Ground.phase }, { on := 6, ground := Go.Ground.phase }, { on := 7, ground := Go.Ground.phase }, { on := 8, ground := Go.Ground.textOnly Go.Departure.lateStores }, { on := 9, ground := Go.Ground.textOnly Go.Departure.lateStores }, { on := 10, ground := Go.Ground.phase }], guard := none }) rfl (fun K11 hK11 => ?_) AllReadyH.nil
                      (obtain ⟨⟨y0, y1, y2⟩, f0, f1, f2⟩ := row3_cells (LM.zero hL.out); go_simp)
                      refine hK11.out _ _ ?_ (fun hHeld5 => ?_)
                      · (try dsimp only); (first | with_reducible exact BQ.cells (BQ.call Hq2.out (LM.done (x := x) (y := y) (z := z) hL.out).2) | with_reducible exact BQ.cells (BQ.call Hq2.out (LM.made (x := x) (y := y) (z := z) hLo.out rfl).2))
                      clear hK11 K11 hHeld4
                      try simp only [Act.put]
                      refine wpAnyH_take (i := 12) (oi := { dst := some 9, op := Go.Op.assign (Go.Operand.tmp 30), type := 3, pos := "l15_stack.go:73", after := #[{ on := 8, ground := Go.Ground.data }, { on := 11, ground := Go.Ground.chain }, { on := 0, ground := Go.Ground.phase }, { on := 1, ground := Go.Ground.phase }, { on := 2, ground := Go.Ground.phase }, { on := 3, ground := Go.Ground.phase }, { on := 4, ground := Go.Ground.phase }, { on := 5, ground := Go.Ground.phase }, { on := 6, ground := Go.Ground.phase }, { on := 7, ground := Go.Ground.phase }, { on := 8, ground := Go.Ground.phase }, { on := 9, ground := Go.Ground.textOnly Go.Departure.lateStores }, { on := 10, ground := Go.Ground.phase }, { on := 11, ground := Go.Ground.phase }], guard := none }) (v := ?_) rfl (by kernel_rfl) (by kernel_rfl) (by kernel_rfl) (fun _ _ _ h => h) (Or.inl ⟨by rfl, ?_⟩) (by assumption) ?_
                      rotate_left
                      · (intro w hSw; (try dsimp only at hSw); go_simp; try with_reducible rfl)
                      try simp only [Act.put, List.setIfInBounds_toArray, List.set_cons_zero, List.set_cons_succ]
                      refine wpAnyH_take (i := 13) (oi := { dst := some 10, op := Go.Op.assign (Go.Operand.tmp 31), type := 4, pos := "l15_stack.go:73", after := #[{ on := 9, ground := Go.Ground.data }, { on := 12, ground := Go.Ground.chain }, { on := 0, ground := Go.Ground.phase }, { on := 1, ground := Go.Ground.phase }, { on := 2, ground := Go.Ground.phase }, { on := 3, ground := Go.Ground.phase }, { on := 4, ground := Go.Ground.phase }, { on := 5, ground := Go.Ground.phase }, { on := 6, ground := Go.Ground.phase }, { on := 7, ground := Go.Ground.phase }, { on := 8, ground := Go.Ground.phase }, { on := 9, ground := Go.Ground.phase }, { on := 10, ground := Go.Ground.phase }, { on := 11, ground := Go.Ground.phase }, { on := 12, ground := Go.Ground.phase }], guard := none }) (v := ?_) rfl (by kernel_rfl) (by kernel_rfl) (by kernel_rfl) (fun _ _ _ h => h) (Or.inl ⟨by rfl, ?_⟩) (by assumption) ?_
                      rotate_left
                      · (intro w hSw; (try dsimp only at hSw); go_simp; try with_reducible rfl)
                      try simp only [Act.put, List.setIfInBounds_toArray, List.set_cons_zero, List.set_cons_succ]
                      refine wpAnyH_done (by kernel_rfl) ?_ _
                      (go_wp2_with fail; go_meet; first | (with_reducible exact ⟨_, z, rfl, rfl, rfl, hz', (LM.done hL.out).1, BQ.call Hq2.out (LM.done hL.out).2⟩) | (with_reducible exact ⟨_, z, rfl, rfl, rfl, hz', (LM.made hLo.out (by simp)).1, BQ.call Hq2.out (LM.made hLo.out rfl).2⟩) | (trace_state; sorry))
              · as_aux_lemma =>
                  (go_simp; have hLo := hL; have q := LM.pop hL.out; (try simp only [World.size_alloc, World.size_drew] at q); replace hL := Lib.hid q; clear q)
                  refine hK10.out _ _ ?_ (fun hHeld2 => ?_)
                  · (try dsimp only); (first | go_keep | exact BQ.cells (BQ.call Hq2.out hL.out.1))
                  clear hK10 K10 hHeld1
                  try simp only [Act.put, List.setIfInBounds_toArray, List.set_cons_zero, List.set_cons_succ]
                  refine wpAnyH_ready (rs := [4]) (by kernel_rfl) (by simp) ?_
                  refine AllReadyH.cons (o := { dst := some 27, op := Go.Op.call { callee := Go.Callee.builtin Go.Builtin.append, args := #[Go.Operand.tmp 25, Go.Operand.tmp 26], argTypes := #[32, 32] }, type := 32, pos := "l15_stack.go:73", after := #[{ on := 2, ground := Go.Ground.data }, { on := 3, ground := Go.Ground.data }], guard := none }) rfl (fun K4 hK4 => ?_) AllReadyH.nil
                  go_simp
                  refine hK4.out _ _ ?_ (fun hHeld3 => ?_)
                  · (try dsimp only); (first | go_keep | exact BQ.cells (BQ.call Hq2.out hL.out.1))
                  clear hK4 K4 hHeld2
                  try simp only [Act.put, List.setIfInBounds_toArray, List.set_cons_zero, List.set_cons_succ]
                  refine wpAnyH_ready (rs := [5]) (by kernel_rfl) (by simp) ?_
                  refine AllReadyH.cons (o := { dst := some 28, op := Go.Op.call { callee := Go.Callee.value (Go.Operand.func 74), args := #[Go.Operand.tmp 23, Go.Operand.tmp 24, Go.Operand.tmp 27], argTypes := #[25, 37, 32] }, type := 89, pos := "l15_stack.go:73", after := #[{ on := 0, ground := Go.Ground.data }, { on := 1, ground := Go.Ground.data }, { on := 4, ground := Go.Ground.data }, { on := 4, ground := Go.Ground.chain }], guard := none }) rfl (fun K5 hK5 => ?_) AllReadyH.nil
                  go_simp
                  (refine (HPop.out _ w2.heap.size _ hL.out.1.size (MxIn.more (Hq2.out.call hL.out.1).2.2.2.1 hws) (LM.own hL.out)).mono ?_; rintro e v1 ⟨z, hz', rfl, hb, hg⟩; have q := LM.run hL.out hg; replace hL := Lib.hid q; obtain ⟨d0, d1⟩ := BQ.cells (BQ.call Hq2.out q.1); clear q hb hg)
                  go_wp2_with fail
                  refine hK5.out _ _ ?_ (fun hHeld4 => ?_)
                  · (try dsimp only); (first | go_keep | exact BQ.cells (BQ.call Hq2.out hL.out.1))
                  clear hK5 K5 hHeld3
                  try simp only [Act.put, List.setIfInBounds_toArray, List.set_cons_zero, List.set_cons_succ]
                  refine wpAnyH_take (i := 6) (oi := { dst := some 22, op := Go.Op.move (Go.Operand.tmp 28), type := 89, pos := "l15_stack.go:73", after := #[{ on := 5, ground := Go.Ground.data }], guard := none }) (v := ?_) rfl (by kernel_rfl) (by kernel_rfl) (by kernel_rfl) (fun _ _ _ h => h) (Or.inl ⟨by rfl, ?_⟩) (by assumption) ?_
                  rotate_left
                  · (intro w hSw; (try dsimp only at hSw); go_simp; try with_reducible rfl)
                  try simp only [Act.put, List.setIfInBounds_toArray, List.set_cons_zero, List.set_cons_succ]
                  refine wpAnyH_take (i := 7) (oi := { dst := some 29, op := Go.Op.extract (Go.Operand.tmp 22) 0, type := 27, pos := "l15_stack.go:73", after := #[{ on := 6, ground := Go.Ground.data }], guard := none }) (v := ?_) rfl (by kernel_rfl) (by kernel_rfl) (by kernel_rfl) (fun _ _ _ h => h) (Or.inl ⟨by rfl, ?_⟩) (by assumption) ?_
                  rotate_left
                  · (intro w hSw; (try dsimp only at hSw); go_simp; try with_reducible rfl)
                  try simp only [Act.put, List.setIfInBounds_toArray, List.set_cons_zero, List.set_cons_succ]
                  refine wpAnyH_take (i := 8) (oi := { dst := some 30, op := Go.Op.extract (Go.Operand.tmp 22) 1, type := 3, pos := "l15_stack.go:73", after := #[{ on := 6, ground := Go.Ground.data }, { on := 11, ground := Go.Ground.gcOnly Go.Departure.lateStores }], guard := none }) (v := ?_) rfl (by kernel_rfl) (by kernel_rfl) (by kernel_rfl) (fun _ _ _ h => h) (Or.inl ⟨by rfl, ?_⟩) (by assumption) ?_
                  rotate_left
                  · (intro w hSw; (try dsimp only at hSw); go_simp; try with_reducible rfl)
                  try simp only [Act.put, List.setIfInBounds_toArray, List.set_cons_zero, List.set_cons_succ]
                  refine wpAnyH_take (i := 9) (oi := { dst := some 31, op := Go.Op.extract (Go.Operand.tmp 22) 2, type := 4, pos := "l15_stack.go:73", after := #[{ on := 6, ground := Go.Ground.data }, { on := 12, ground := Go.Ground.gcOnly Go.Departure.lateStores }], guard := none }) (v := ?_) rfl (by kernel_rfl) (by kernel_rfl) (by kernel_rfl) (fun _ _ _ h => h) (Or.inl ⟨by rfl, ?_⟩) (by assumption) ?_
                  rotate_left
                  · (intro w hSw; (try dsimp only at hSw); go_simp; try with_reducible rfl)
                  try simp only [Act.put, List.setIfInBounds_toArray, List.set_cons_zero, List.set_cons_succ]
                  refine wpAnyH_ready (rs := [11]) (by kernel_rfl) (by simp) ?_
                  refine AllReadyH.cons (o := { dst := none, op := Go.Op.store 27 (Go.Operand.tmp 8) (Go.Operand.tmp 29), type := 0, pos := "l15_stack.go:73", after := #[{ on := 10, ground := Go.Ground.data }, { on := 7, ground := Go.Ground.data }, { on := 5, ground := Go.Ground.chain }, { on := 0, ground := Go.Ground.phase }, { on := 1, ground := Go.Ground.phase }, { on := 2, ground := Go.Ground.phase }, { on := 3, ground := Go.Ground.phase }, { on := 4, ground := Go.Ground.phase }, { on := 5, ground := Go.Ground.phase }, { on := 6, ground := Go.Ground.phase }, { on := 7, ground := Go.Ground.phase }, { on := 8, ground := Go.Ground.textOnly Go.Departure.lateStores }, { on := 9, ground := Go.Ground.textOnly Go.Departure.lateStores }, { on := 10, ground := Go.Ground.phase }], guard := none }) rfl (fun K11 hK11 => ?_) AllReadyH.nil
                  (obtain ⟨⟨y0, y1, y2⟩, f0, f1, f2⟩ := row3_cells (LM.zero hL.out); go_simp)
                  refine hK11.out _ _ ?_ (fun hHeld5 => ?_)
                  · (try dsimp only); (first | with_reducible exact BQ.cells (BQ.call Hq2.out (LM.done (x := x) (y := y) (z := z) hL.out).2) | with_reducible exact BQ.cells (BQ.call Hq2.out (LM.made (x := x) (y := y) (z := z) hLo.out rfl).2))
                  clear hK11 K11 hHeld4
                  try simp only [Act.put]
                  refine wpAnyH_take (i := 12) (oi := { dst := some 9, op := Go.Op.assign (Go.Operand.tmp 30), type := 3, pos := "l15_stack.go:73", after := #[{ on := 8, ground := Go.Ground.data }, { on := 11, ground := Go.Ground.chain }, { on := 0, ground := Go.Ground.phase }, { on := 1, ground := Go.Ground.phase }, { on := 2, ground := Go.Ground.phase }, { on := 3, ground := Go.Ground.phase }, { on := 4, ground := Go.Ground.phase }, { on := 5, ground := Go.Ground.phase }, { on := 6, ground := Go.Ground.phase }, { on := 7, ground := Go.Ground.phase }, { on := 8, ground := Go.Ground.phase }, { on := 9, ground := Go.Ground.textOnly Go.Departure.lateStores }, { on := 10, ground := Go.Ground.phase }, { on := 11, ground := Go.Ground.phase }], guard := none }) (v := ?_) rfl (by kernel_rfl) (by kernel_rfl) (by kernel_rfl) (fun _ _ _ h => h) (Or.inl ⟨by rfl, ?_⟩) (by assumption) ?_
                  rotate_left
                  · (intro w hSw; (try dsimp only at hSw); go_simp; try with_reducible rfl)
                  try simp only [Act.put, List.setIfInBounds_toArray, List.set_cons_zero, List.set_cons_succ]
                  refine wpAnyH_take (i := 13) (oi := { dst := some 10, op := Go.Op.assign (Go.Operand.tmp 31), type := 4, pos := "l15_stack.go:73", after := #[{ on := 9, ground := Go.Ground.data }, { on := 12, ground := Go.Ground.chain }, { on := 0, ground := Go.Ground.phase }, { on := 1, ground := Go.Ground.phase }, { on := 2, ground := Go.Ground.phase }, { on := 3, ground := Go.Ground.phase }, { on := 4, ground := Go.Ground.phase }, { on := 5, ground := Go.Ground.phase }, { on := 6, ground := Go.Ground.phase }, { on := 7, ground := Go.Ground.phase }, { on := 8, ground := Go.Ground.phase }, { on := 9, ground := Go.Ground.phase }, { on := 10, ground := Go.Ground.phase }, { on := 11, ground := Go.Ground.phase }, { on := 12, ground := Go.Ground.phase }], guard := none }) (v := ?_) rfl (by kernel_rfl) (by kernel_rfl) (by kernel_rfl) (fun _ _ _ h => h) (Or.inl ⟨by rfl, ?_⟩) (by assumption) ?_
                  rotate_left
                  · (intro w hSw; (try dsimp only at hSw); go_simp; try with_reducible rfl)
                  try simp only [Act.put, List.setIfInBounds_toArray, List.set_cons_zero, List.set_cons_succ]
                  refine wpAnyH_done (by kernel_rfl) ?_ _
                  (go_wp2_with fail; go_meet; first | (with_reducible exact ⟨_, z, rfl, rfl, rfl, hz', (LM.done hL.out).1, BQ.call Hq2.out (LM.done hL.out).2⟩) | (with_reducible exact ⟨_, z, rfl, rfl, rfl, hz', (LM.made hLo.out (by simp)).1, BQ.call Hq2.out (LM.made hLo.out rfl).2⟩) | (trace_state; sorry))
          · as_aux_lemma =>
              (go_simp; have hLo := hL; have q := LM.pop hL.out; (try simp only [World.size_alloc, World.size_drew] at q); replace hL := Lib.hid q; clear q)
              refine hK10.out _ _ ?_ (fun hHeld1 => ?_)
              · (try dsimp only); (first | go_keep | exact BQ.cells (BQ.call Hq2.out hL.out.1))
              clear hK10 K10 hHeld0
              try simp only [Act.put, List.setIfInBounds_toArray, List.set_cons_zero, List.set_cons_succ]
              refine wpAnyH_ready (rs := [2]) (by kernel_rfl) (by simp) ?_
              refine AllReadyH.cons (o := { dst := some 25, op := Go.Op.buildSlice 32 0 #[], type := 32, pos := "l15_stack.go:73", after := #[], guard := none }) rfl (fun K2 hK2 => ?_) AllReadyH.nil
              (go_simp; have q := LM.slice hL.out; (try simp only [World.size_alloc, World.size_drew] at q); replace hL := Lib.hid q; clear q)
              refine hK2.out _ _ ?_ (fun hHeld2 => ?_)
              · (try dsimp only); (first | go_keep | exact BQ.cells (BQ.call Hq2.out hL.out.1))
              clear hK2 K2 hHeld1
              try simp only [Act.put, List.setIfInBounds_toArray, List.set_cons_zero, List.set_cons_succ]
              refine wpAnyH_ready (rs := [4]) (by kernel_rfl) (by simp) ?_
              refine AllReadyH.cons (o := { dst := some 27, op := Go.Op.call { callee := Go.Callee.builtin Go.Builtin.append, args := #[Go.Operand.tmp 25, Go.Operand.tmp 26], argTypes := #[32, 32] }, type := 32, pos := "l15_stack.go:73", after := #[{ on := 2, ground := Go.Ground.data }, { on := 3, ground := Go.Ground.data }], guard := none }) rfl (fun K4 hK4 => ?_) AllReadyH.nil
              go_simp
              refine hK4.out _ _ ?_ (fun hHeld3 => ?_)
              · (try dsimp only); (first | go_keep | exact BQ.cells (BQ.call Hq2.out hL.out.1))
              clear hK4 K4 hHeld2
              try simp only [Act.put, List.setIfInBounds_toArray, List.set_cons_zero, List.set_cons_succ]
              refine wpAnyH_ready (rs := [5]) (by kernel_rfl) (by simp) ?_
              refine AllReadyH.cons (o := { dst := some 28, op := Go.Op.call { callee := Go.Callee.value (Go.Operand.func 74), args := #[Go.Operand.tmp 23, Go.Operand.tmp 24, Go.Operand.tmp 27], argTypes := #[25, 37, 32] }, type := 89, pos := "l15_stack.go:73", after := #[{ on := 0, ground := Go.Ground.data }, { on := 1, ground := Go.Ground.data }, { on := 4, ground := Go.Ground.data }, { on := 4, ground := Go.Ground.chain }], guard := none }) rfl (fun K5 hK5 => ?_) AllReadyH.nil
              go_simp
              (refine (HPop.out _ w2.heap.size _ hL.out.1.size (MxIn.more (Hq2.out.call hL.out.1).2.2.2.1 hws) (LM.own hL.out)).mono ?_; rintro e v1 ⟨z, hz', rfl, hb, hg⟩; have q := LM.run hL.out hg; replace hL := Lib.hid q; obtain ⟨d0, d1⟩ := BQ.cells (BQ.call Hq2.out q.1); clear q hb hg)
              go_wp2_with fail
              refine hK5.out _ _ ?_ (fun hHeld4 => ?_)
              · (try dsimp only); (first | go_keep | exact BQ.cells (BQ.call Hq2.out hL.out.1))
              clear hK5 K5 hHeld3
              try simp only [Act.put, List.setIfInBounds_toArray, List.set_cons_zero, List.set_cons_succ]
              refine wpAnyH_take (i := 6) (oi := { dst := some 22, op := Go.Op.move (Go.Operand.tmp 28), type := 89, pos := "l15_stack.go:73", after := #[{ on := 5, ground := Go.Ground.data }], guard := none }) (v := ?_) rfl (by kernel_rfl) (by kernel_rfl) (by kernel_rfl) (fun _ _ _ h => h) (Or.inl ⟨by rfl, ?_⟩) (by assumption) ?_
              rotate_left
              · (intro w hSw; (try dsimp only at hSw); go_simp; try with_reducible rfl)
              try simp only [Act.put, List.setIfInBounds_toArray, List.set_cons_zero, List.set_cons_succ]
              refine wpAnyH_take (i := 7) (oi := { dst := some 29, op := Go.Op.extract (Go.Operand.tmp 22) 0, type := 27, pos := "l15_stack.go:73", after := #[{ on := 6, ground := Go.Ground.data }], guard := none }) (v := ?_) rfl (by kernel_rfl) (by kernel_rfl) (by kernel_rfl) (fun _ _ _ h => h) (Or.inl ⟨by rfl, ?_⟩) (by assumption) ?_
              rotate_left
              · (intro w hSw; (try dsimp only at hSw); go_simp; try with_reducible rfl)
              try simp only [Act.put, List.setIfInBounds_toArray, List.set_cons_zero, List.set_cons_succ]
              refine wpAnyH_take (i := 8) (oi := { dst := some 30, op := Go.Op.extract (Go.Operand.tmp 22) 1, type := 3, pos := "l15_stack.go:73", after := #[{ on := 6, ground := Go.Ground.data }, { on := 11, ground := Go.Ground.gcOnly Go.Departure.lateStores }], guard := none }) (v := ?_) rfl (by kernel_rfl) (by kernel_rfl) (by kernel_rfl) (fun _ _ _ h => h) (Or.inl ⟨by rfl, ?_⟩) (by assumption) ?_
              rotate_left
              · (intro w hSw; (try dsimp only at hSw); go_simp; try with_reducible rfl)
              try simp only [Act.put, List.setIfInBounds_toArray, List.set_cons_zero, List.set_cons_succ]
              refine wpAnyH_take (i := 9) (oi := { dst := some 31, op := Go.Op.extract (Go.Operand.tmp 22) 2, type := 4, pos := "l15_stack.go:73", after := #[{ on := 6, ground := Go.Ground.data }, { on := 12, ground := Go.Ground.gcOnly Go.Departure.lateStores }], guard := none }) (v := ?_) rfl (by kernel_rfl) (by kernel_rfl) (by kernel_rfl) (fun _ _ _ h => h) (Or.inl ⟨by rfl, ?_⟩) (by assumption) ?_
              rotate_left
              · (intro w hSw; (try dsimp only at hSw); go_simp; try with_reducible rfl)
              try simp only [Act.put, List.setIfInBounds_toArray, List.set_cons_zero, List.set_cons_succ]
              refine wpAnyH_ready (rs := [11]) (by kernel_rfl) (by simp) ?_
              refine AllReadyH.cons (o := { dst := none, op := Go.Op.store 27 (Go.Operand.tmp 8) (Go.Operand.tmp 29), type := 0, pos := "l15_stack.go:73", after := #[{ on := 10, ground := Go.Ground.data }, { on := 7, ground := Go.Ground.data }, { on := 5, ground := Go.Ground.chain }, { on := 0, ground := Go.Ground.phase }, { on := 1, ground := Go.Ground.phase }, { on := 2, ground := Go.Ground.phase }, { on := 3, ground := Go.Ground.phase }, { on := 4, ground := Go.Ground.phase }, { on := 5, ground := Go.Ground.phase }, { on := 6, ground := Go.Ground.phase }, { on := 7, ground := Go.Ground.phase }, { on := 8, ground := Go.Ground.textOnly Go.Departure.lateStores }, { on := 9, ground := Go.Ground.textOnly Go.Departure.lateStores }, { on := 10, ground := Go.Ground.phase }], guard := none }) rfl (fun K11 hK11 => ?_) AllReadyH.nil
              (obtain ⟨⟨y0, y1, y2⟩, f0, f1, f2⟩ := row3_cells (LM.zero hL.out); go_simp)
              refine hK11.out _ _ ?_ (fun hHeld5 => ?_)
              · (try dsimp only); (first | with_reducible exact BQ.cells (BQ.call Hq2.out (LM.done (x := x) (y := y) (z := z) hL.out).2) | with_reducible exact BQ.cells (BQ.call Hq2.out (LM.made (x := x) (y := y) (z := z) hLo.out rfl).2))
              clear hK11 K11 hHeld4
              try simp only [Act.put]
              refine wpAnyH_take (i := 12) (oi := { dst := some 9, op := Go.Op.assign (Go.Operand.tmp 30), type := 3, pos := "l15_stack.go:73", after := #[{ on := 8, ground := Go.Ground.data }, { on := 11, ground := Go.Ground.chain }, { on := 0, ground := Go.Ground.phase }, { on := 1, ground := Go.Ground.phase }, { on := 2, ground := Go.Ground.phase }, { on := 3, ground := Go.Ground.phase }, { on := 4, ground := Go.Ground.phase }, { on := 5, ground := Go.Ground.phase }, { on := 6, ground := Go.Ground.phase }, { on := 7, ground := Go.Ground.phase }, { on := 8, ground := Go.Ground.phase }, { on := 9, ground := Go.Ground.textOnly Go.Departure.lateStores }, { on := 10, ground := Go.Ground.phase }, { on := 11, ground := Go.Ground.phase }], guard := none }) (v := ?_) rfl (by kernel_rfl) (by kernel_rfl) (by kernel_rfl) (fun _ _ _ h => h) (Or.inl ⟨by rfl, ?_⟩) (by assumption) ?_
              rotate_left
              · (intro w hSw; (try dsimp only at hSw); go_simp; try with_reducible rfl)
              try simp only [Act.put, List.setIfInBounds_toArray, List.set_cons_zero, List.set_cons_succ]
              refine wpAnyH_take (i := 13) (oi := { dst := some 10, op := Go.Op.assign (Go.Operand.tmp 31), type := 4, pos := "l15_stack.go:73", after := #[{ on := 9, ground := Go.Ground.data }, { on := 12, ground := Go.Ground.chain }, { on := 0, ground := Go.Ground.phase }, { on := 1, ground := Go.Ground.phase }, { on := 2, ground := Go.Ground.phase }, { on := 3, ground := Go.Ground.phase }, { on := 4, ground := Go.Ground.phase }, { on := 5, ground := Go.Ground.phase }, { on := 6, ground := Go.Ground.phase }, { on := 7, ground := Go.Ground.phase }, { on := 8, ground := Go.Ground.phase }, { on := 9, ground := Go.Ground.phase }, { on := 10, ground := Go.Ground.phase }, { on := 11, ground := Go.Ground.phase }, { on := 12, ground := Go.Ground.phase }], guard := none }) (v := ?_) rfl (by kernel_rfl) (by kernel_rfl) (by kernel_rfl) (fun _ _ _ h => h) (Or.inl ⟨by rfl, ?_⟩) (by assumption) ?_
              rotate_left
              · (intro w hSw; (try dsimp only at hSw); go_simp; try with_reducible rfl)
              try simp only [Act.put, List.setIfInBounds_toArray, List.set_cons_zero, List.set_cons_succ]
              refine wpAnyH_done (by kernel_rfl) ?_ _
              (go_wp2_with fail; go_meet; first | (with_reducible exact ⟨_, z, rfl, rfl, rfl, hz', (LM.done hL.out).1, BQ.call Hq2.out (LM.done hL.out).2⟩) | (with_reducible exact ⟨_, z, rfl, rfl, rfl, hz', (LM.made hLo.out (by simp)).1, BQ.call Hq2.out (LM.made hLo.out rfl).2⟩) | (trace_state; sorry))
        | some a2 =>
          have HCs : Hid (∀ X, Below W.heap.size W X → ∀ j u, (icells l)[j]? = some u → X.cell? (a2.add j) = some u) := Lib.hid fun X hX j u hu => by
            have hne : l ≠ [] := by
              rintro rfl; simp [icells] at hu
            obtain ⟨a', e, hlt, hc⟩ := Hq2.out.2.2.2.2 hne
            cases e
            have h0 := Hq2.out.1
            unfold icells at hu
            rw [List.getElem?_map] at hu
            cases hl : l[j]? with
            | none => rw [hl] at hu; cases hu
            | some z =>
              rw [hl] at hu
              have h1 := hc j z hl
              rw [h0.cell (by rw [block_of_add]; exact hlt)] at h1
              rw [hX.cell (by rw [block_of_add]; exact hlt), h1, ← Option.some.inj hu]
          try simp only [List.cons_append, List.nil_append, List.append_eq]
          refine wp_region_held_drew (S := (fun w' => w'.cell? ⟨W.heap.size, 0, none⟩ = some (.int .i64 x) ∧ w'.cell? ⟨W.heap.size, 1, none⟩ = some (.int .i64 y))) (by kernel_rfl) ?_ (fun hHeld0 => ?_)
          · (try dsimp only); (first | go_keep | exact BQ.cells (BQ.call Hq2.out hL.out.1))
          refine wpAnyH_take (i := 0) (oi := { dst := some 23, op := Go.Op.load 25 (Go.Operand.tmp 3), type := 25, pos := "l15_stack.go:73", after := #[], guard := none }) (v := ?_) rfl (by kernel_rfl) (by kernel_rfl) (by kernel_rfl) (fun _ _ _ h => h) (Or.inl ⟨by rfl, ?_⟩) (by assumption) ?_
          rotate_left
          · (intro w hSw; (try dsimp only at hSw); go_simp; try with_reducible rfl)
          try simp only [Act.put, List.setIfInBounds_toArray, List.set_cons_zero, List.set_cons_succ]
          refine wpAnyH_take (i := 1) (oi := { dst := some 24, op := Go.Op.move (Go.Operand.tmp 1), type := 37, pos := "l15_stack.go:73", after := #[], guard := none }) (v := ?_) rfl (by kernel_rfl) (by kernel_rfl) (by kernel_rfl) (fun _ _ _ h => h) (Or.inl ⟨by rfl, ?_⟩) (by assumption) ?_
          rotate_left
          · (intro w hSw; (try dsimp only at hSw); go_simp; try with_reducible rfl)
          try simp only [Act.put, List.setIfInBounds_toArray, List.set_cons_zero, List.set_cons_succ]
          refine wpAnyH_take (i := 3) (oi := { dst := some 26, op := Go.Op.move (Go.Operand.tmp 2), type := 32, pos := "l15_stack.go:73", after := #[], guard := none }) (v := ?_) rfl (by kernel_rfl) (by kernel_rfl) (by kernel_rfl) (fun _ _ _ h => h) (Or.inl ⟨by rfl, ?_⟩) (by assumption) ?_
          rotate_left
          · (intro w hSw; (try dsimp only at hSw); go_simp; try with_reducible rfl)
          try simp only [Act.put, List.setIfInBounds_toArray, List.set_cons_zero, List.set_cons_succ]
          refine wpAnyH_ready (rs := [2, 10]) (by kernel_rfl) (by simp) ?_
          refine (AllReadyH.cons (o := { dst := some 25, op := Go.Op.buildSlice 32 0 #[], type := 32, pos := "l15_stack.go:73", after := #[], guard := none }) rfl (fun K2 hK2 => ?_) (AllReadyH.cons (o := { dst := some 8, op := Go.Op.alloc 27, type := 0, pos := "l15_stack.go:73", after := #[], guard := none }) rfl (fun K10 hK10 => ?_) AllReadyH.nil))
          · as_aux_lemma =>
              (go_simp; have q := LM.slice hL.out; (try simp only [World.size_alloc, World.size_drew] at q); replace hL := Lib.hid q; clear q)
              refine hK2.out _ _ ?_ (fun hHeld1 => ?_)
              · (try dsimp only); (first | go_keep | exact BQ.cells (BQ.call Hq2.out hL.out.1))
              clear hK2 K2 hHeld0
              try simp only [Act.put, List.setIfInBounds_toArray, List.set_cons_zero, List.set_cons_succ]
              refine wpAnyH_ready (rs := [4, 10]) (by kernel_rfl) (by simp) ?_
              refine (AllReadyH.cons (o := { dst := some 27, op := Go.Op.call { callee := Go.Callee.builtin Go.Builtin.append, args := #[Go.Operand.tmp 25, Go.Operand.tmp 26], argTypes := #[32, 32] }, type := 32, pos := "l15_stack.go:73", after := #[{ on := 2, ground := Go.Ground.data }, { on := 3, ground := Go.Ground.data }], guard := none }) rfl (fun K4 hK4 => ?_) (AllReadyH.cons (o := { dst := some 8, op := Go.Op.alloc 27, type := 0, pos := "l15_stack.go:73", after := #[], guard := none }) rfl (fun K10 hK10 => ?_) AllReadyH.nil))
              · as_aux_lemma =>
                  refine step_app rfl (.tmp 25) (.tmp 26) 32 rfl w2.heap.size 3 i0 _ 1 8 Try.underlying32 hi0 hz0 hz1 hz2 rfl (by decide) _ 0 [] rfl (LM.own hL.out) a2 n2 c2 (icells l) rfl (by rw [icells_length, Hn2.out]; simp) (HCs.out _ (Hq2.out.call hL.out.1).1) (oneCellI _) n2 (icells l) (Nat.zero_add n2) rfl (by unfold maxLen; omega) (by omega) hL.out.1.size ?_; intro A3 c3 w3 o3 g3; have q := LM.app (l' := l) hL.out (by rw [Hn2.out]; exact o3) g3; replace hL := Lib.hid q; clear q o3 g3
                  refine hK4.out _ _ ?_ (fun hHeld2 => ?_)
                  · (try dsimp only); (first | go_keep | exact BQ.cells (BQ.call Hq2.out hL.out.1))
                  clear hK4 K4 hHeld1
                  try simp only [Act.put, List.setIfInBounds_toArray, List.set_cons_zero, List.set_cons_succ]
                  refine wpAnyH_ready (rs := [5, 10]) (by kernel_rfl) (by simp) ?_
                  refine (AllReadyH.cons (o := { dst := some 28, op := Go.Op.call { callee := Go.Callee.value (Go.Operand.func 74), args := #[Go.Operand.tmp 23, Go.Operand.tmp 24, Go.Operand.tmp 27], argTypes := #[25, 37, 32] }, type := 89, pos := "l15_stack.go:73", after := #[{ on := 0, ground := Go.Ground.data }, { on := 1, ground := Go.Ground.data }, { on := 4, ground := Go.Ground.data }, { on := 4, ground := Go.Ground.chain }], guard := none }) rfl (fun K5 hK5 => ?_) (AllReadyH.cons (o := { dst := some 8, op := Go.Op.alloc 27, type := 0, pos := "l15_stack.go:73", after := #[], guard := none }) rfl (fun K10 hK10 => ?_) AllReadyH.nil))
                  · as_aux_lemma =>
                      go_simp
                      (refine (HPop.out _ w2.heap.size _ hL.out.1.size (MxIn.more (Hq2.out.call hL.out.1).2.2.2.1 hws) (LM.own hL.out)).mono ?_; rintro e v1 ⟨z, hz', rfl, hb, hg⟩; have q := LM.run hL.out hg; replace hL := Lib.hid q; obtain ⟨d0, d1⟩ := BQ.cells (BQ.call Hq2.out q.1); clear q hb hg)
                      go_wp2_with fail
                      refine hK5.out _ _ ?_ (fun hHeld3 => ?_)
                      · (try dsimp only); (first | go_keep | exact BQ.cells (BQ.call Hq2.out hL.out.1))
                      clear hK5 K5 hHeld2
                      try simp only [Act.put, List.setIfInBounds_toArray, List.set_cons_zero, List.set_cons_succ]
                      refine wpAnyH_take (i := 6) (oi := { dst := some 22, op := Go.Op.move (Go.Operand.tmp 28), type := 89, pos := "l15_stack.go:73", after := #[{ on := 5, ground := Go.Ground.data }], guard := none }) (v := ?_) rfl (by kernel_rfl) (by kernel_rfl) (by kernel_rfl) (fun _ _ _ h => h) (Or.inl ⟨by rfl, ?_⟩) (by assumption) ?_
                      rotate_left
                      · (intro w hSw; (try dsimp only at hSw); go_simp; try with_reducible rfl)
                      try simp only [Act.put, List.setIfInBounds_toArray, List.set_cons_zero, List.set_cons_succ]
                      refine wpAnyH_take (i := 7) (oi := { dst := some 29, op := Go.Op.extract (Go.Operand.tmp 22) 0, type := 27, pos := "l15_stack.go:73", after := #[{ on := 6, ground := Go.Ground.data }], guard := none }) (v := ?_) rfl (by kernel_rfl) (by kernel_rfl) (by kernel_rfl) (fun _ _ _ h => h) (Or.inl ⟨by rfl, ?_⟩) (by assumption) ?_
                      rotate_left
                      · (intro w hSw; (try dsimp only at hSw); go_simp; try with_reducible rfl)
                      try simp only [Act.put, List.setIfInBounds_toArray, List.set_cons_zero, List.set_cons_succ]
                      refine wpAnyH_take (i := 8) (oi := { dst := some 30, op := Go.Op.extract (Go.Operand.tmp 22) 1, type := 3, pos := "l15_stack.go:73", after := #[{ on := 6, ground := Go.Ground.data }, { on := 11, ground := Go.Ground.gcOnly Go.Departure.lateStores }], guard := none }) (v := ?_) rfl (by kernel_rfl) (by kernel_rfl) (by kernel_rfl) (fun _ _ _ h => h) (Or.inl ⟨by rfl, ?_⟩) (by assumption) ?_
                      rotate_left
                      · (intro w hSw; (try dsimp only at hSw); go_simp; try with_reducible rfl)
                      try simp only [Act.put, List.setIfInBounds_toArray, List.set_cons_zero, List.set_cons_succ]
                      refine wpAnyH_take (i := 9) (oi := { dst := some 31, op := Go.Op.extract (Go.Operand.tmp 22) 2, type := 4, pos := "l15_stack.go:73", after := #[{ on := 6, ground := Go.Ground.data }, { on := 12, ground := Go.Ground.gcOnly Go.Departure.lateStores }], guard := none }) (v := ?_) rfl (by kernel_rfl) (by kernel_rfl) (by kernel_rfl) (fun _ _ _ h => h) (Or.inl ⟨by rfl, ?_⟩) (by assumption) ?_
                      rotate_left
                      · (intro w hSw; (try dsimp only at hSw); go_simp; try with_reducible rfl)
                      try simp only [Act.put, List.setIfInBounds_toArray, List.set_cons_zero, List.set_cons_succ]
                      refine wpAnyH_ready (rs := [10]) (by kernel_rfl) (by simp) ?_
                      refine AllReadyH.cons (o := { dst := some 8, op := Go.Op.alloc 27, type := 0, pos := "l15_stack.go:73", after := #[], guard := none }) rfl (fun K10 hK10 => ?_) AllReadyH.nil
                      (go_simp; have hLo := hL; have q := LM.pop hL.out; (try simp only [World.size_alloc, World.size_drew] at q); replace hL := Lib.hid q; clear q)
                      refine hK10.out _ _ ?_ (fun hHeld4 => ?_)
                      · (try dsimp only); (first | go_keep | exact BQ.cells (BQ.call Hq2.out hL.out.1))
                      clear hK10 K10 hHeld3
                      try simp only [Act.put, List.setIfInBounds_toArray, List.set_cons_zero, List.set_cons_succ]
                      refine wpAnyH_ready (rs := [11]) (by kernel_rfl) (by simp) ?_
                      refine AllReadyH.cons (o := { dst := none, op := Go.Op.store 27 (Go.Operand.tmp 8) (Go.Operand.tmp 29), type := 0, pos := "l15_stack.go:73", after := #[{ on := 10, ground := Go.Ground.data }, { on := 7, ground := Go.Ground.data }, { on := 5, ground := Go.Ground.chain }, { on := 0, ground := Go.Ground.phase }, { on := 1, ground := Go.Ground.phase }, { on := 2, ground := Go.Ground.phase }, { on := 3, ground := Go.Ground.phase }, { on := 4, ground := Go.Ground.phase }, { on := 5, ground := Go.Ground.phase }, { on := 6, ground := Go.Ground.phase }, { on := 7, ground := Go.Ground.phase }, { on := 8, ground := Go.Ground.textOnly Go.Departure.lateStores }, { on := 9, ground := Go.Ground.textOnly Go.Departure.lateStores }, { on := 10, ground := Go.Ground.phase }], guard := none }) rfl (fun K11 hK11 => ?_) AllReadyH.nil
                      (obtain ⟨⟨y0, y1, y2⟩, f0, f1, f2⟩ := row3_cells (LM.zero hL.out); go_simp)
                      refine hK11.out _ _ ?_ (fun hHeld5 => ?_)
                      · (try dsimp only); (first | with_reducible exact BQ.cells (BQ.call Hq2.out (LM.done (x := x) (y := y) (z := z) hL.out).2) | with_reducible exact BQ.cells (BQ.call Hq2.out (LM.made (x := x) (y := y) (z := z) hLo.out rfl).2))
                      clear hK11 K11 hHeld4
                      try simp only [Act.put]
                      refine wpAnyH_take (i := 12) (oi := { dst := some 9, op := Go.Op.assign (Go.Operand.tmp 30), type := 3, pos := "l15_stack.go:73", after := #[{ on := 8, ground := Go.Ground.data }, { on := 11, ground := Go.Ground.chain }, { on := 0, ground := Go.Ground.phase }, { on := 1, ground := Go.Ground.phase }, { on := 2, ground := Go.Ground.phase }, { on := 3, ground := Go.Ground.phase }, { on := 4, ground := Go.Ground.phase }, { on := 5, ground := Go.Ground.phase }, { on := 6, ground := Go.Ground.phase }, { on := 7, ground := Go.Ground.phase }, { on := 8, ground := Go.Ground.phase }, { on := 9, ground := Go.Ground.textOnly Go.Departure.lateStores }, { on := 10, ground := Go.Ground.phase }, { on := 11, ground := Go.Ground.phase }], guard := none }) (v := ?_) rfl (by kernel_rfl) (by kernel_rfl) (by kernel_rfl) (fun _ _ _ h => h) (Or.inl ⟨by rfl, ?_⟩) (by assumption) ?_
                      rotate_left
                      · (intro w hSw; (try dsimp only at hSw); go_simp; try with_reducible rfl)
                      try simp only [Act.put, List.setIfInBounds_toArray, List.set_cons_zero, List.set_cons_succ]
                      refine wpAnyH_take (i := 13) (oi := { dst := some 10, op := Go.Op.assign (Go.Operand.tmp 31), type := 4, pos := "l15_stack.go:73", after := #[{ on := 9, ground := Go.Ground.data }, { on := 12, ground := Go.Ground.chain }, { on := 0, ground := Go.Ground.phase }, { on := 1, ground := Go.Ground.phase }, { on := 2, ground := Go.Ground.phase }, { on := 3, ground := Go.Ground.phase }, { on := 4, ground := Go.Ground.phase }, { on := 5, ground := Go.Ground.phase }, { on := 6, ground := Go.Ground.phase }, { on := 7, ground := Go.Ground.phase }, { on := 8, ground := Go.Ground.phase }, { on := 9, ground := Go.Ground.phase }, { on := 10, ground := Go.Ground.phase }, { on := 11, ground := Go.Ground.phase }, { on := 12, ground := Go.Ground.phase }], guard := none }) (v := ?_) rfl (by kernel_rfl) (by kernel_rfl) (by kernel_rfl) (fun _ _ _ h => h) (Or.inl ⟨by rfl, ?_⟩) (by assumption) ?_
                      rotate_left
                      · (intro w hSw; (try dsimp only at hSw); go_simp; try with_reducible rfl)
                      try simp only [Act.put, List.setIfInBounds_toArray, List.set_cons_zero, List.set_cons_succ]
                      refine wpAnyH_done (by kernel_rfl) ?_ _
                      (go_wp2_with fail; go_meet; first | (with_reducible exact ⟨_, z, rfl, rfl, rfl, hz', (LM.done hL.out).1, BQ.call Hq2.out (LM.done hL.out).2⟩) | (with_reducible exact ⟨_, z, rfl, rfl, rfl, hz', (LM.made hLo.out (by simp)).1, BQ.call Hq2.out (LM.made hLo.out rfl).2⟩) | (trace_state; sorry))
                  · as_aux_lemma =>
                      (go_simp; have hLo := hL; have q := LM.pop hL.out; (try simp only [World.size_alloc, World.size_drew] at q); replace hL := Lib.hid q; clear q)
                      refine hK10.out _ _ ?_ (fun hHeld3 => ?_)
                      · (try dsimp only); (first | go_keep | exact BQ.cells (BQ.call Hq2.out hL.out.1))
                      clear hK10 K10 hHeld2
                      try simp only [Act.put, List.setIfInBounds_toArray, List.set_cons_zero, List.set_cons_succ]
                      refine wpAnyH_ready (rs := [5]) (by kernel_rfl) (by simp) ?_
                      refine AllReadyH.cons (o := { dst := some 28, op := Go.Op.call { callee := Go.Callee.value (Go.Operand.func 74), args := #[Go.Operand.tmp 23, Go.Operand.tmp 24, Go.Operand.tmp 27], argTypes := #[25, 37, 32] }, type := 89, pos := "l15_stack.go:73", after := #[{ on := 0, ground := Go.Ground.data }, { on := 1, ground := Go.Ground.data }, { on := 4, ground := Go.Ground.data }, { on := 4, ground := Go.Ground.chain }], guard := none }) rfl (fun K5 hK5 => ?_) AllReadyH.nil
                      go_simp
                      (refine (HPop.out _ w2.heap.size _ hL.out.1.size (MxIn.more (Hq2.out.call hL.out.1).2.2.2.1 hws) (LM.own hL.out)).mono ?_; rintro e v1 ⟨z, hz', rfl, hb, hg⟩; have q := LM.run hL.out hg; replace hL := Lib.hid q; obtain ⟨d0, d1⟩ := BQ.cells (BQ.call Hq2.out q.1); clear q hb hg)
                      go_wp2_with fail
                      refine hK5.out _ _ ?_ (fun hHeld4 => ?_)
                      · (try dsimp only); (first | go_keep | exact BQ.cells (BQ.call Hq2.out hL.out.1))
                      clear hK5 K5 hHeld3
                      try simp only [Act.put, List.setIfInBounds_toArray, List.set_cons_zero, List.set_cons_succ]
                      refine wpAnyH_take (i := 6) (oi := { dst := some 22, op := Go.Op.move (Go.Operand.tmp 28), type := 89, pos := "l15_stack.go:73", after := #[{ on := 5, ground := Go.Ground.data }], guard := none }) (v := ?_) rfl (by kernel_rfl) (by kernel_rfl) (by kernel_rfl) (fun _ _ _ h => h) (Or.inl ⟨by rfl, ?_⟩) (by assumption) ?_
                      rotate_left
                      · (intro w hSw; (try dsimp only at hSw); go_simp; try with_reducible rfl)
                      try simp only [Act.put, List.setIfInBounds_toArray, List.set_cons_zero, List.set_cons_succ]
                      refine wpAnyH_take (i := 7) (oi := { dst := some 29, op := Go.Op.extract (Go.Operand.tmp 22) 0, type := 27, pos := "l15_stack.go:73", after := #[{ on := 6, ground := Go.Ground.data }], guard := none }) (v := ?_) rfl (by kernel_rfl) (by kernel_rfl) (by kernel_rfl) (fun _ _ _ h => h) (Or.inl ⟨by rfl, ?_⟩) (by assumption) ?_
                      rotate_left
                      · (intro w hSw; (try dsimp only at hSw); go_simp; try with_reducible rfl)
                      try simp only [Act.put, List.setIfInBounds_toArray, List.set_cons_zero, List.set_cons_succ]
                      refine wpAnyH_take (i := 8) (oi := { dst := some 30, op := Go.Op.extract (Go.Operand.tmp 22) 1, type := 3, pos := "l15_stack.go:73", after := #[{ on := 6, ground := Go.Ground.data }, { on := 11, ground := Go.Ground.gcOnly Go.Departure.lateStores }], guard := none }) (v := ?_) rfl (by kernel_rfl) (by kernel_rfl) (by kernel_rfl) (fun _ _ _ h => h) (Or.inl ⟨by rfl, ?_⟩) (by assumption) ?_
                      rotate_left
                      · (intro w hSw; (try dsimp only at hSw); go_simp; try with_reducible rfl)
                      try simp only [Act.put, List.setIfInBounds_toArray, List.set_cons_zero, List.set_cons_succ]
                      refine wpAnyH_take (i := 9) (oi := { dst := some 31, op := Go.Op.extract (Go.Operand.tmp 22) 2, type := 4, pos := "l15_stack.go:73", after := #[{ on := 6, ground := Go.Ground.data }, { on := 12, ground := Go.Ground.gcOnly Go.Departure.lateStores }], guard := none }) (v := ?_) rfl (by kernel_rfl) (by kernel_rfl) (by kernel_rfl) (fun _ _ _ h => h) (Or.inl ⟨by rfl, ?_⟩) (by assumption) ?_
                      rotate_left
                      · (intro w hSw; (try dsimp only at hSw); go_simp; try with_reducible rfl)
                      try simp only [Act.put, List.setIfInBounds_toArray, List.set_cons_zero, List.set_cons_succ]
                      refine wpAnyH_ready (rs := [11]) (by kernel_rfl) (by simp) ?_
                      refine AllReadyH.cons (o := { dst := none, op := Go.Op.store 27 (Go.Operand.tmp 8) (Go.Operand.tmp 29), type := 0, pos := "l15_stack.go:73", after := #[{ on := 10, ground := Go.Ground.data }, { on := 7, ground := Go.Ground.data }, { on := 5, ground := Go.Ground.chain }, { on := 0, ground := Go.Ground.phase }, { on := 1, ground := Go.Ground.phase }, { on := 2, ground := Go.Ground.phase }, { on := 3, ground := Go.Ground.phase }, { on := 4, ground := Go.Ground.phase }, { on := 5, ground := Go.Ground.phase }, { on := 6, ground := Go.Ground.phase }, { on := 7, ground := Go.Ground.phase }, { on := 8, ground := Go.Ground.textOnly Go.Departure.lateStores }, { on := 9, ground := Go.Ground.textOnly Go.Departure.lateStores }, { on := 10, ground := Go.Ground.phase }], guard := none }) rfl (fun K11 hK11 => ?_) AllReadyH.nil
                      (obtain ⟨⟨y0, y1, y2⟩, f0, f1, f2⟩ := row3_cells (LM.zero hL.out); go_simp)
                      refine hK11.out _ _ ?_ (fun hHeld5 => ?_)
                      · (try dsimp only); (first | with_reducible exact BQ.cells (BQ.call Hq2.out (LM.done (x := x) (y := y) (z := z) hL.out).2) | with_reducible exact BQ.cells (BQ.call Hq2.out (LM.made (x := x) (y := y) (z := z) hLo.out rfl).2))
                      clear hK11 K11 hHeld4
                      try simp only [Act.put]
                      refine wpAnyH_take (i := 12) (oi := { dst := some 9, op := Go.Op.assign (Go.Operand.tmp 30), type := 3, pos := "l15_stack.go:73", after := #[{ on := 8, ground := Go.Ground.data }, { on := 11, ground := Go.Ground.chain }, { on := 0, ground := Go.Ground.phase }, { on := 1, ground := Go.Ground.phase }, { on := 2, ground := Go.Ground.phase }, { on := 3, ground := Go.Ground.phase }, { on := 4, ground := Go.Ground.phase }, { on := 5, ground := Go.Ground.phase }, { on := 6, ground := Go.Ground.phase }, { on := 7, ground := Go.Ground.phase }, { on := 8, ground := Go.Ground.phase }, { on := 9, ground := Go.Ground.textOnly Go.Departure.lateStores }, { on := 10, ground := Go.Ground.phase }, { on := 11, ground := Go.Ground.phase }], guard := none }) (v := ?_) rfl (by kernel_rfl) (by kernel_rfl) (by kernel_rfl) (fun _ _ _ h => h) (Or.inl ⟨by rfl, ?_⟩) (by assumption) ?_
                      rotate_left
                      · (intro w hSw; (try dsimp only at hSw); go_simp; try with_reducible rfl)
                      try simp only [Act.put, List.setIfInBounds_toArray, List.set_cons_zero, List.set_cons_succ]
                      refine wpAnyH_take (i := 13) (oi := { dst := some 10, op := Go.Op.assign (Go.Operand.tmp 31), type := 4, pos := "l15_stack.go:73", after := #[{ on := 9, ground := Go.Ground.data }, { on := 12, ground := Go.Ground.chain }, { on := 0, ground := Go.Ground.phase }, { on := 1, ground := Go.Ground.phase }, { on := 2, ground := Go.Ground.phase }, { on := 3, ground := Go.Ground.phase }, { on := 4, ground := Go.Ground.phase }, { on := 5, ground := Go.Ground.phase }, { on := 6, ground := Go.Ground.phase }, { on := 7, ground := Go.Ground.phase }, { on := 8, ground := Go.Ground.phase }, { on := 9, ground := Go.Ground.phase }, { on := 10, ground := Go.Ground.phase }, { on := 11, ground := Go.Ground.phase }, { on := 12, ground := Go.Ground.phase }], guard := none }) (v := ?_) rfl (by kernel_rfl) (by kernel_rfl) (by kernel_rfl) (fun _ _ _ h => h) (Or.inl ⟨by rfl, ?_⟩) (by assumption) ?_
                      rotate_left
                      · (intro w hSw; (try dsimp only at hSw); go_simp; try with_reducible rfl)
                      try simp only [Act.put, List.setIfInBounds_toArray, List.set_cons_zero, List.set_cons_succ]
                      refine wpAnyH_done (by kernel_rfl) ?_ _
                      (go_wp2_with fail; go_meet; first | (with_reducible exact ⟨_, z, rfl, rfl, rfl, hz', (LM.done hL.out).1, BQ.call Hq2.out (LM.done hL.out).2⟩) | (with_reducible exact ⟨_, z, rfl, rfl, rfl, hz', (LM.made hLo.out (by simp)).1, BQ.call Hq2.out (LM.made hLo.out rfl).2⟩) | (trace_state; sorry))
              · as_aux_lemma =>
                  (go_simp; have hLo := hL; have q := LM.pop hL.out; (try simp only [World.size_alloc, World.size_drew] at q); replace hL := Lib.hid q; clear q)
                  refine hK10.out _ _ ?_ (fun hHeld2 => ?_)
                  · (try dsimp only); (first | go_keep | exact BQ.cells (BQ.call Hq2.out hL.out.1))
                  clear hK10 K10 hHeld1
                  try simp only [Act.put, List.setIfInBounds_toArray, List.set_cons_zero, List.set_cons_succ]
                  refine wpAnyH_ready (rs := [4]) (by kernel_rfl) (by simp) ?_
                  refine AllReadyH.cons (o := { dst := some 27, op := Go.Op.call { callee := Go.Callee.builtin Go.Builtin.append, args := #[Go.Operand.tmp 25, Go.Operand.tmp 26], argTypes := #[32, 32] }, type := 32, pos := "l15_stack.go:73", after := #[{ on := 2, ground := Go.Ground.data }, { on := 3, ground := Go.Ground.data }], guard := none }) rfl (fun K4 hK4 => ?_) AllReadyH.nil
                  refine step_app rfl (.tmp 25) (.tmp 26) 32 rfl w2.heap.size 3 i0 _ 1 8 Try.underlying32 hi0 hz0 hz1 hz2 rfl (by decide) _ 0 [] rfl (LM.own hL.out) a2 n2 c2 (icells l) rfl (by rw [icells_length, Hn2.out]; simp) (HCs.out _ (Hq2.out.call hL.out.1).1) (oneCellI _) n2 (icells l) (Nat.zero_add n2) rfl (by unfold maxLen; omega) (by omega) hL.out.1.size ?_; intro A3 c3 w3 o3 g3; have q := LM.app (l' := l) hL.out (by rw [Hn2.out]; exact o3) g3; replace hL := Lib.hid q; clear q o3 g3
                  refine hK4.out _ _ ?_ (fun hHeld3 => ?_)
                  · (try dsimp only); (first | go_keep | exact BQ.cells (BQ.call Hq2.out hL.out.1))
                  clear hK4 K4 hHeld2
                  try simp only [Act.put, List.setIfInBounds_toArray, List.set_cons_zero, List.set_cons_succ]
                  refine wpAnyH_ready (rs := [5]) (by kernel_rfl) (by simp) ?_
                  refine AllReadyH.cons (o := { dst := some 28, op := Go.Op.call { callee := Go.Callee.value (Go.Operand.func 74), args := #[Go.Operand.tmp 23, Go.Operand.tmp 24, Go.Operand.tmp 27], argTypes := #[25, 37, 32] }, type := 89, pos := "l15_stack.go:73", after := #[{ on := 0, ground := Go.Ground.data }, { on := 1, ground := Go.Ground.data }, { on := 4, ground := Go.Ground.data }, { on := 4, ground := Go.Ground.chain }], guard := none }) rfl (fun K5 hK5 => ?_) AllReadyH.nil
                  go_simp
                  (refine (HPop.out _ w2.heap.size _ hL.out.1.size (MxIn.more (Hq2.out.call hL.out.1).2.2.2.1 hws) (LM.own hL.out)).mono ?_; rintro e v1 ⟨z, hz', rfl, hb, hg⟩; have q := LM.run hL.out hg; replace hL := Lib.hid q; obtain ⟨d0, d1⟩ := BQ.cells (BQ.call Hq2.out q.1); clear q hb hg)
                  go_wp2_with fail
                  refine hK5.out _ _ ?_ (fun hHeld4 => ?_)
                  · (try dsimp only); (first | go_keep | exact BQ.cells (BQ.call Hq2.out hL.out.1))
                  clear hK5 K5 hHeld3
                  try simp only [Act.put, List.setIfInBounds_toArray, List.set_cons_zero, List.set_cons_succ]
                  refine wpAnyH_take (i := 6) (oi := { dst := some 22, op := Go.Op.move (Go.Operand.tmp 28), type := 89, pos := "l15_stack.go:73", after := #[{ on := 5, ground := Go.Ground.data }], guard := none }) (v := ?_) rfl (by kernel_rfl) (by kernel_rfl) (by kernel_rfl) (fun _ _ _ h => h) (Or.inl ⟨by rfl, ?_⟩) (by assumption) ?_
                  rotate_left
                  · (intro w hSw; (try dsimp only at hSw); go_simp; try with_reducible rfl)
                  try simp only [Act.put, List.setIfInBounds_toArray, List.set_cons_zero, List.set_cons_succ]
                  refine wpAnyH_take (i := 7) (oi := { dst := some 29, op := Go.Op.extract (Go.Operand.tmp 22) 0, type := 27, pos := "l15_stack.go:73", after := #[{ on := 6, ground := Go.Ground.data }], guard := none }) (v := ?_) rfl (by kernel_rfl) (by kernel_rfl) (by kernel_rfl) (fun _ _ _ h => h) (Or.inl ⟨by rfl, ?_⟩) (by assumption) ?_
                  rotate_left
                  · (intro w hSw; (try dsimp only at hSw); go_simp; try with_reducible rfl)
                  try simp only [Act.put, List.setIfInBounds_toArray, List.set_cons_zero, List.set_cons_succ]
                  refine wpAnyH_take (i := 8) (oi := { dst := some 30, op := Go.Op.extract (Go.Operand.tmp 22) 1, type := 3, pos := "l15_stack.go:73", after := #[{ on := 6, ground := Go.Ground.data }, { on := 11, ground := Go.Ground.gcOnly Go.Departure.lateStores }], guard := none }) (v := ?_) rfl (by kernel_rfl) (by kernel_rfl) (by kernel_rfl) (fun _ _ _ h => h) (Or.inl ⟨by rfl, ?_⟩) (by assumption) ?_
                  rotate_left
                  · (intro w hSw; (try dsimp only at hSw); go_simp; try with_reducible rfl)
                  try simp only [Act.put, List.setIfInBounds_toArray, List.set_cons_zero, List.set_cons_succ]
                  refine wpAnyH_take (i := 9) (oi := { dst := some 31, op := Go.Op.extract (Go.Operand.tmp 22) 2, type := 4, pos := "l15_stack.go:73", after := #[{ on := 6, ground := Go.Ground.data }, { on := 12, ground := Go.Ground.gcOnly Go.Departure.lateStores }], guard := none }) (v := ?_) rfl (by kernel_rfl) (by kernel_rfl) (by kernel_rfl) (fun _ _ _ h => h) (Or.inl ⟨by rfl, ?_⟩) (by assumption) ?_
                  rotate_left
                  · (intro w hSw; (try dsimp only at hSw); go_simp; try with_reducible rfl)
                  try simp only [Act.put, List.setIfInBounds_toArray, List.set_cons_zero, List.set_cons_succ]
                  refine wpAnyH_ready (rs := [11]) (by kernel_rfl) (by simp) ?_
                  refine AllReadyH.cons (o := { dst := none, op := Go.Op.store 27 (Go.Operand.tmp 8) (Go.Operand.tmp 29), type := 0, pos := "l15_stack.go:73", after := #[{ on := 10, ground := Go.Ground.data }, { on := 7, ground := Go.Ground.data }, { on := 5, ground := Go.Ground.chain }, { on := 0, ground := Go.Ground.phase }, { on := 1, ground := Go.Ground.phase }, { on := 2, ground := Go.Ground.phase }, { on := 3, ground := Go.Ground.phase }, { on := 4, ground := Go.Ground.phase }, { on := 5, ground := Go.Ground.phase }, { on := 6, ground := Go.Ground.phase }, { on := 7, ground := Go.Ground.phase }, { on := 8, ground := Go.Ground.textOnly Go.Departure.lateStores }, { on := 9, ground := Go.Ground.textOnly Go.Departure.lateStores }, { on := 10, ground := Go.Ground.phase }], guard := none }) rfl (fun K11 hK11 => ?_) AllReadyH.nil
                  (obtain ⟨⟨y0, y1, y2⟩, f0, f1, f2⟩ := row3_cells (LM.zero hL.out); go_simp)
                  refine hK11.out _ _ ?_ (fun hHeld5 => ?_)
                  · (try dsimp only); (first | with_reducible exact BQ.cells (BQ.call Hq2.out (LM.done (x := x) (y := y) (z := z) hL.out).2) | with_reducible exact BQ.cells (BQ.call Hq2.out (LM.made (x := x) (y := y) (z := z) hLo.out rfl).2))
                  clear hK11 K11 hHeld4
                  try simp only [Act.put]
                  refine wpAnyH_take (i := 12) (oi := { dst := some 9, op := Go.Op.assign (Go.Operand.tmp 30), type := 3, pos := "l15_stack.go:73", after := #[{ on := 8, ground := Go.Ground.data }, { on := 11, ground := Go.Ground.chain }, { on := 0, ground := Go.Ground.phase }, { on := 1, ground := Go.Ground.phase }, { on := 2, ground := Go.Ground.phase }, { on := 3, ground := Go.Ground.phase }, { on := 4, ground := Go.Ground.phase }, { on := 5, ground := Go.Ground.phase }, { on := 6, ground := Go.Ground.phase }, { on := 7, ground := Go.Ground.phase }, { on := 8, ground := Go.Ground.phase }, { on := 9, ground := Go.Ground.textOnly Go.Departure.lateStores }, { on := 10, ground := Go.Ground.phase }, { on := 11, ground := Go.Ground.phase }], guard := none }) (v := ?_) rfl (by kernel_rfl) (by kernel_rfl) (by kernel_rfl) (fun _ _ _ h => h) (Or.inl ⟨by rfl, ?_⟩) (by assumption) ?_
                  rotate_left
                  · (intro w hSw; (try dsimp only at hSw); go_simp; try with_reducible rfl)
                  try simp only [Act.put, List.setIfInBounds_toArray, List.set_cons_zero, List.set_cons_succ]
                  refine wpAnyH_take (i := 13) (oi := { dst := some 10, op := Go.Op.assign (Go.Operand.tmp 31), type := 4, pos := "l15_stack.go:73", after := #[{ on := 9, ground := Go.Ground.data }, { on := 12, ground := Go.Ground.chain }, { on := 0, ground := Go.Ground.phase }, { on := 1, ground := Go.Ground.phase }, { on := 2, ground := Go.Ground.phase }, { on := 3, ground := Go.Ground.phase }, { on := 4, ground := Go.Ground.phase }, { on := 5, ground := Go.Ground.phase }, { on := 6, ground := Go.Ground.phase }, { on := 7, ground := Go.Ground.phase }, { on := 8, ground := Go.Ground.phase }, { on := 9, ground := Go.Ground.phase }, { on := 10, ground := Go.Ground.phase }, { on := 11, ground := Go.Ground.phase }, { on := 12, ground := Go.Ground.phase }], guard := none }) (v := ?_) rfl (by kernel_rfl) (by kernel_rfl) (by kernel_rfl) (fun _ _ _ h => h) (Or.inl ⟨by rfl, ?_⟩) (by assumption) ?_
                  rotate_left
                  · (intro w hSw; (try dsimp only at hSw); go_simp; try with_reducible rfl)
                  try simp only [Act.put, List.setIfInBounds_toArray, List.set_cons_zero, List.set_cons_succ]
                  refine wpAnyH_done (by kernel_rfl) ?_ _
                  (go_wp2_with fail; go_meet; first | (with_reducible exact ⟨_, z, rfl, rfl, rfl, hz', (LM.done hL.out).1, BQ.call Hq2.out (LM.done hL.out).2⟩) | (with_reducible exact ⟨_, z, rfl, rfl, rfl, hz', (LM.made hLo.out (by simp)).1, BQ.call Hq2.out (LM.made hLo.out rfl).2⟩) | (trace_state; sorry))
          · as_aux_lemma =>
              (go_simp; have hLo := hL; have q := LM.pop hL.out; (try simp only [World.size_alloc, World.size_drew] at q); replace hL := Lib.hid q; clear q)
              refine hK10.out _ _ ?_ (fun hHeld1 => ?_)
              · (try dsimp only); (first | go_keep | exact BQ.cells (BQ.call Hq2.out hL.out.1))
              clear hK10 K10 hHeld0
              try simp only [Act.put, List.setIfInBounds_toArray, List.set_cons_zero, List.set_cons_succ]
              refine wpAnyH_ready (rs := [2]) (by kernel_rfl) (by simp) ?_
              refine AllReadyH.cons (o := { dst := some 25, op := Go.Op.buildSlice 32 0 #[], type := 32, pos := "l15_stack.go:73", after := #[], guard := none }) rfl (fun K2 hK2 => ?_) AllReadyH.nil
              (go_simp; have q := LM.slice hL.out; (try simp only [World.size_alloc, World.size_drew] at q); replace hL := Lib.hid q; clear q)
              refine hK2.out _ _ ?_ (fun hHeld2 => ?_)
              · (try dsimp only); (first | go_keep | exact BQ.cells (BQ.call Hq2.out hL.out.1))
              clear hK2 K2 hHeld1
              try simp only [Act.put, List.setIfInBounds_toArray, List.set_cons_zero, List.set_cons_succ]
              refine wpAnyH_ready (rs := [4]) (by kernel_rfl) (by simp) ?_
              refine AllReadyH.cons (o := { dst := some 27, op := Go.Op.call { callee := Go.Callee.builtin Go.Builtin.append, args := #[Go.Operand.tmp 25, Go.Operand.tmp 26], argTypes := #[32, 32] }, type := 32, pos := "l15_stack.go:73", after := #[{ on := 2, ground := Go.Ground.data }, { on := 3, ground := Go.Ground.data }], guard := none }) rfl (fun K4 hK4 => ?_) AllReadyH.nil
              refine step_app rfl (.tmp 25) (.tmp 26) 32 rfl w2.heap.size 3 i0 _ 1 8 Try.underlying32 hi0 hz0 hz1 hz2 rfl (by decide) _ 0 [] rfl (LM.own hL.out) a2 n2 c2 (icells l) rfl (by rw [icells_length, Hn2.out]; simp) (HCs.out _ (Hq2.out.call hL.out.1).1) (oneCellI _) n2 (icells l) (Nat.zero_add n2) rfl (by unfold maxLen; omega) (by omega) hL.out.1.size ?_; intro A3 c3 w3 o3 g3; have q := LM.app (l' := l) hL.out (by rw [Hn2.out]; exact o3) g3; replace hL := Lib.hid q; clear q o3 g3
              refine hK4.out _ _ ?_ (fun hHeld3 => ?_)
              · (try dsimp only); (first | go_keep | exact BQ.cells (BQ.call Hq2.out hL.out.1))
              clear hK4 K4 hHeld2
              try simp only [Act.put, List.setIfInBounds_toArray, List.set_cons_zero, List.set_cons_succ]
              refine wpAnyH_ready (rs := [5]) (by kernel_rfl) (by simp) ?_
              refine AllReadyH.cons (o := { dst := some 28, op := Go.Op.call { callee := Go.Callee.value (Go.Operand.func 74), args := #[Go.Operand.tmp 23, Go.Operand.tmp 24, Go.Operand.tmp 27], argTypes := #[25, 37, 32] }, type := 89, pos := "l15_stack.go:73", after := #[{ on := 0, ground := Go.Ground.data }, { on := 1, ground := Go.Ground.data }, { on := 4, ground := Go.Ground.data }, { on := 4, ground := Go.Ground.chain }], guard := none }) rfl (fun K5 hK5 => ?_) AllReadyH.nil
              go_simp
              (refine (HPop.out _ w2.heap.size _ hL.out.1.size (MxIn.more (Hq2.out.call hL.out.1).2.2.2.1 hws) (LM.own hL.out)).mono ?_; rintro e v1 ⟨z, hz', rfl, hb, hg⟩; have q := LM.run hL.out hg; replace hL := Lib.hid q; obtain ⟨d0, d1⟩ := BQ.cells (BQ.call Hq2.out q.1); clear q hb hg)
              go_wp2_with fail
              refine hK5.out _ _ ?_ (fun hHeld4 => ?_)
              · (try dsimp only); (first | go_keep | exact BQ.cells (BQ.call Hq2.out hL.out.1))
              clear hK5 K5 hHeld3
              try simp only [Act.put, List.setIfInBounds_toArray, List.set_cons_zero, List.set_cons_succ]
              refine wpAnyH_take (i := 6) (oi := { dst := some 22, op := Go.Op.move (Go.Operand.tmp 28), type := 89, pos := "l15_stack.go:73", after := #[{ on := 5, ground := Go.Ground.data }], guard := none }) (v := ?_) rfl (by kernel_rfl) (by kernel_rfl) (by kernel_rfl) (fun _ _ _ h => h) (Or.inl ⟨by rfl, ?_⟩) (by assumption) ?_
              rotate_left
              · (intro w hSw; (try dsimp only at hSw); go_simp; try with_reducible rfl)
              try simp only [Act.put, List.setIfInBounds_toArray, List.set_cons_zero, List.set_cons_succ]
              refine wpAnyH_take (i := 7) (oi := { dst := some 29, op := Go.Op.extract (Go.Operand.tmp 22) 0, type := 27, pos := "l15_stack.go:73", after := #[{ on := 6, ground := Go.Ground.data }], guard := none }) (v := ?_) rfl (by kernel_rfl) (by kernel_rfl) (by kernel_rfl) (fun _ _ _ h => h) (Or.inl ⟨by rfl, ?_⟩) (by assumption) ?_
              rotate_left
              · (intro w hSw; (try dsimp only at hSw); go_simp; try with_reducible rfl)
              try simp only [Act.put, List.setIfInBounds_toArray, List.set_cons_zero, List.set_cons_succ]
              refine wpAnyH_take (i := 8) (oi := { dst := some 30, op := Go.Op.extract (Go.Operand.tmp 22) 1, type := 3, pos := "l15_stack.go:73", after := #[{ on := 6, ground := Go.Ground.data }, { on := 11, ground := Go.Ground.gcOnly Go.Departure.lateStores }], guard := none }) (v := ?_) rfl (by kernel_rfl) (by kernel_rfl) (by kernel_rfl) (fun _ _ _ h => h) (Or.inl ⟨by rfl, ?_⟩) (by assumption) ?_
              rotate_left
              · (intro w hSw; (try dsimp only at hSw); go_simp; try with_reducible rfl)
              try simp only [Act.put, List.setIfInBounds_toArray, List.set_cons_zero, List.set_cons_succ]
              refine wpAnyH_take (i := 9) (oi := { dst := some 31, op := Go.Op.extract (Go.Operand.tmp 22) 2, type := 4, pos := "l15_stack.go:73", after := #[{ on := 6, ground := Go.Ground.data }, { on := 12, ground := Go.Ground.gcOnly Go.Departure.lateStores }], guard := none }) (v := ?_) rfl (by kernel_rfl) (by kernel_rfl) (by kernel_rfl) (fun _ _ _ h => h) (Or.inl ⟨by rfl, ?_⟩) (by assumption) ?_
              rotate_left
              · (intro w hSw; (try dsimp only at hSw); go_simp; try with_reducible rfl)
              try simp only [Act.put, List.setIfInBounds_toArray, List.set_cons_zero, List.set_cons_succ]
              refine wpAnyH_ready (rs := [11]) (by kernel_rfl) (by simp) ?_
              refine AllReadyH.cons (o := { dst := none, op := Go.Op.store 27 (Go.Operand.tmp 8) (Go.Operand.tmp 29), type := 0, pos := "l15_stack.go:73", after := #[{ on := 10, ground := Go.Ground.data }, { on := 7, ground := Go.Ground.data }, { on := 5, ground := Go.Ground.chain }, { on := 0, ground := Go.Ground.phase }, { on := 1, ground := Go.Ground.phase }, { on := 2, ground := Go.Ground.phase }, { on := 3, ground := Go.Ground.phase }, { on := 4, ground := Go.Ground.phase }, { on := 5, ground := Go.Ground.phase }, { on := 6, ground := Go.Ground.phase }, { on := 7, ground := Go.Ground.phase }, { on := 8, ground := Go.Ground.textOnly Go.Departure.lateStores }, { on := 9, ground := Go.Ground.textOnly Go.Departure.lateStores }, { on := 10, ground := Go.Ground.phase }], guard := none }) rfl (fun K11 hK11 => ?_) AllReadyH.nil
              (obtain ⟨⟨y0, y1, y2⟩, f0, f1, f2⟩ := row3_cells (LM.zero hL.out); go_simp)
              refine hK11.out _ _ ?_ (fun hHeld5 => ?_)
              · (try dsimp only); (first | with_reducible exact BQ.cells (BQ.call Hq2.out (LM.done (x := x) (y := y) (z := z) hL.out).2) | with_reducible exact BQ.cells (BQ.call Hq2.out (LM.made (x := x) (y := y) (z := z) hLo.out rfl).2))
              clear hK11 K11 hHeld4
              try simp only [Act.put]
              refine wpAnyH_take (i := 12) (oi := { dst := some 9, op := Go.Op.assign (Go.Operand.tmp 30), type := 3, pos := "l15_stack.go:73", after := #[{ on := 8, ground := Go.Ground.data }, { on := 11, ground := Go.Ground.chain }, { on := 0, ground := Go.Ground.phase }, { on := 1, ground := Go.Ground.phase }, { on := 2, ground := Go.Ground.phase }, { on := 3, ground := Go.Ground.phase }, { on := 4, ground := Go.Ground.phase }, { on := 5, ground := Go.Ground.phase }, { on := 6, ground := Go.Ground.phase }, { on := 7, ground := Go.Ground.phase }, { on := 8, ground := Go.Ground.phase }, { on := 9, ground := Go.Ground.textOnly Go.Departure.lateStores }, { on := 10, ground := Go.Ground.phase }, { on := 11, ground := Go.Ground.phase }], guard := none }) (v := ?_) rfl (by kernel_rfl) (by kernel_rfl) (by kernel_rfl) (fun _ _ _ h => h) (Or.inl ⟨by rfl, ?_⟩) (by assumption) ?_
              rotate_left
              · (intro w hSw; (try dsimp only at hSw); go_simp; try with_reducible rfl)
              try simp only [Act.put, List.setIfInBounds_toArray, List.set_cons_zero, List.set_cons_succ]
              refine wpAnyH_take (i := 13) (oi := { dst := some 10, op := Go.Op.assign (Go.Operand.tmp 31), type := 4, pos := "l15_stack.go:73", after := #[{ on := 9, ground := Go.Ground.data }, { on := 12, ground := Go.Ground.chain }, { on := 0, ground := Go.Ground.phase }, { on := 1, ground := Go.Ground.phase }, { on := 2, ground := Go.Ground.phase }, { on := 3, ground := Go.Ground.phase }, { on := 4, ground := Go.Ground.phase }, { on := 5, ground := Go.Ground.phase }, { on := 6, ground := Go.Ground.phase }, { on := 7, ground := Go.Ground.phase }, { on := 8, ground := Go.Ground.phase }, { on := 9, ground := Go.Ground.phase }, { on := 10, ground := Go.Ground.phase }, { on := 11, ground := Go.Ground.phase }, { on := 12, ground := Go.Ground.phase }], guard := none }) (v := ?_) rfl (by kernel_rfl) (by kernel_rfl) (by kernel_rfl) (fun _ _ _ h => h) (Or.inl ⟨by rfl, ?_⟩) (by assumption) ?_
              rotate_left
              · (intro w hSw; (try dsimp only at hSw); go_simp; try with_reducible rfl)
              try simp only [Act.put, List.setIfInBounds_toArray, List.set_cons_zero, List.set_cons_succ]
              refine wpAnyH_done (by kernel_rfl) ?_ _
              (go_wp2_with fail; go_meet; first | (with_reducible exact ⟨_, z, rfl, rfl, rfl, hz', (LM.done hL.out).1, BQ.call Hq2.out (LM.done hL.out).2⟩) | (with_reducible exact ⟨_, z, rfl, rfl, rfl, hz', (LM.made hLo.out (by simp)).1, BQ.call Hq2.out (LM.made hLo.out rfl).2⟩) | (trace_state; sorry))
      case rest =>
      obtain ⟨P, z, rfl, rfl, rfl, hz', hrow, hbq⟩ := hcut
      clear c0 c1
      obtain ⟨⟨m0, m1, m2⟩, -⟩ := row3_cells hrow
      obtain ⟨⟨e0, e1, e2⟩, f0, f1, f2⟩ := row3_cells hbq.2.2.1
      have Hbq := Lib.hid hbq
      have Hz := Lib.hid hz'
      clear hrow hbq hz'
      cases rb with
      | true =>
        have HK := Lib.hid (HK1.out rfl)
        obtain rfl := Hz.out rfl
        clear HK1 HK2 Hz
        go_wp2_with fail
        refine ret_set3 e0 e1 e2 fun Y g0 g1 g2 hY => ?_
        exact bodyPost_ret (v := .tuple #[.agg #[.int .i64 x, .int .i64 y, .int .i64 z], .bool true]) (by simp [results, Try.results36, go_sem, g0, g1, g2]) rfl (HK.out Y (below_set3b Hbq.out.1 (by omega) hY))
      | false =>
        have HK := Lib.hid (HK2.out rfl)
        clear HK1 HK2 Hz
        go_wp2_with fail
        refine ret_set3 e0 e1 e2 fun Y g0 g1 g2 hY => ?_
        exact bodyPost_ret (v := .tuple #[.agg #[.int .i64 0, .int .i64 0, .int .i64 0], .bool false]) (by simp [results, Try.results36, go_sem, g0, g1, g2]) rfl (HK.out Y (below_set3b Hbq.out.1 (by omega) hY))
  · rw [Bool.not_eq_true] at hA
    rw [hA] at HAo
    have HK := Lib.hid (HK0.out (po_no (.inl hA)))
    clear hi hi2 hn hn2 hl hA HK0
    generalize pmX x y ls l = r1 at *
    generalize pmY x y ls l = r2 at *
    generalize pmO x y ls l = r3 at *
    generalize poB x y ls l = r4 at *
    go_enter Try.func36, Try.ntmps36
    have Hq0 := Lib.hid (HQ0.out 25 27)
    clear HQ0
    go_wp2_with fail
    refine (HAo.out _ (Hq0.out.2.2.2.1.more Hq0.out.1.size)).mono ?_
    rintro e w1 ⟨rfl, hb⟩
    have Hq1 := Lib.hid (Hq0.out.call hb)
    clear hb Hq0 HAo
    obtain ⟨⟨e0, e1, e2⟩, f0, f1, f2⟩ := row3_cells Hq1.out.2.2.1
    go_wp2_with fail
    refine ret_set3 e0 e1 e2 fun Y g0 g1 g2 hY => ?_
    exact bodyPost_ret (v := .tuple #[.agg #[.int .i64 0, .int .i64 0, .int .i64 0], .bool false]) (by simp [results, Try.results36, go_sem, g0, g1, g2]) rfl (HK.out Y (below_set3b Hq1.out.1 (by omega) hY))

set_option maxRecDepth 100000 in
set_option maxHeartbeats 8000000 in
theorem arrowsUsed_any (x y : Int) (A : Option Addr) (n c : Nat) (ls : List (List Int)) (A2 : Option Addr) (n2 c2 : Nat) (l : List Int) (W : World) (hn : ls.length = n) (hm : n ≤ 1048576) (hl : ∀ l ∈ ls, l.length ≤ 1048576) (hi : MxIn W W.heap.size A ls) (hn2 : l.length = n2) (hm2 : n2 ≤ 1048576) (hi2 : IntsIn W W.heap.size A2 l) :
    Calls Try.prog 37 #[.agg #[.int .i64 x, .int .i64 y], .slice A n c, .slice A2 n2 c2] W (Nm (auZ x y ls l) W) := by
  have HQ0 := Lib.hid (fun T => @bx_new W x y A A2 ls l hi hi2 T)
  have HAo := Lib.hid (fun X hi => arrowsOk_any x y A n c ls X hn hm hl hi)
  have HK0 : Hid (poB x y ls l = false → ∀ w', Below W.heap.size W w' → Nm (auZ x y ls l) W (.returned (.int .i64 (-1))) w') := Lib.hid fun h w' hb => by
    obtain ⟨-, -, -, h1⟩ := pm_bad h
    rw [h1]; exact ⟨rfl, hb⟩
  by_cases hA : aoB x y ls = true
  · have hAo := ao_iff.1 hA
    have HOd := Lib.hid (fun X hi => order_any x y A2 n2 c2 l X hAo.1 hn2 hm2 hi)
    rw [hA] at HAo
    cases hO : odB x y l with
    | false =>
      rw [hO] at HOd
      have HK := Lib.hid (HK0.out (po_no (.inr (.inl hO))))
      clear hi hi2 hn hn2 hl hA hAo hO HK0
      generalize auZ x y ls l = r1 at *
      go_enter Try.func37, Try.ntmps37
      have Hq0 := Lib.hid (HQ0.out 25)
      clear HQ0
      go_wp2_with fail
      refine (HAo.out _ (Hq0.out.2.2.1.more Hq0.out.1.size)).mono ?_
      rintro e w1 ⟨rfl, hb⟩
      have Hq1 := Lib.hid (Hq0.out.call hb)
      clear hb Hq0 HAo
      obtain ⟨c0, c1⟩ := BX.cells Hq1.out
      go_wp2_with fail
      refine (HOd.out _ (Hq1.out.2.2.2.more Hq1.out.1.size)).mono ?_
      rintro e w2 ⟨rfl, hb⟩
      have Hq2 := Lib.hid (Hq1.out.call hb)
      clear hb Hq1 HOd c0 c1
      go_wp2_with fail
      go_ret
      exact HK.out _ Hq2.out.1
    | true =>
      rw [hO] at HOd
      obtain ⟨r1, r2, r3, r4, r5⟩ := rn_facts hA hO
      obtain ⟨hl100, hlr⟩ : l.length ≤ 100 ∧ ∀ u ∈ l, 0 ≤ u ∧ u < x * y := od_yes hO
      have HPop := Lib.hid (fun (v : Value) (b : Nat) (X : World) (h1 : b ≤ X.heap.size) (h2 : MxIn X b A ls) (h3 : X.ownsRow b 3 1 v l.length (icells l)) => pop_gen x y A n c ls v l b X hAo hn hlr hl100 h1 h2 h3)
      have HK1 : Hid (rnB x y ls l = true → ∀ w', Below W.heap.size W w' → Nm (auZ x y ls l) W (.returned (.int .i64 (rnT x y ls l))) w') := Lib.hid fun h w' hb => by
        rw [r5, h, if_pos rfl]; exact ⟨rfl, hb⟩
      have HK2 : Hid (rnB x y ls l = false → ∀ w', Below W.heap.size W w' → Nm (auZ x y ls l) W (.returned (.int .i64 (-1))) w') := Lib.hid fun h => HK0.out (by rw [r1]; exact h)
      obtain ⟨i0, hi0, hz0, hz1, hz2⟩ := info_parts info_int
      have Hn2 := Lib.hid hn2
      clear hi hi2 hn hn2 hl hA hAo hO HK0 r1 r2 r3 r4 r5 hlr
      generalize auZ x y ls l = r1 at *
      generalize rnB x y ls l = rb at *
      generalize rnO x y ls l = ro at *
      generalize rnT x y ls l = rt at *
      go_enter Try.func37, Try.ntmps37
      have Hq0 := Lib.hid (HQ0.out 25)
      clear HQ0
      go_wp2_with fail
      refine (HAo.out _ (Hq0.out.2.2.1.more Hq0.out.1.size)).mono ?_
      rintro e w1 ⟨rfl, hb⟩
      have Hq1 := Lib.hid (Hq0.out.call hb)
      clear hb Hq0 HAo
      obtain ⟨c0, c1⟩ := BX.cells Hq1.out
      go_wp2_with fail
      refine (HOd.out _ (Hq1.out.2.2.2.more Hq1.out.1.size)).mono ?_
      rintro e w2 ⟨rfl, hb⟩
      have Hq2 := Lib.hid (Hq1.out.call hb)
      clear hb Hq1 HOd c0 c1
      have hws := Hq2.out.1.size
      obtain ⟨c0, c1⟩ := BX.cells Hq2.out
      go_wp2_with fail
      go_cut [7, 8, 9] from 20 to 29 (fun u8 u9 u10 wx => ∃ (P : Nat) (z : Int), u8 = .pointer (some ⟨P, 0, none⟩) ∧ u9 = .int .i64 rt ∧ u10 = .bool rb ∧ (rb = true → z = ro) ∧ Row3 P x y z wx ∧ BX W x y A A2 ls l wx)
      case first =>
        have hL := Lib.hid (lm_new w2).dr
        cases A2 with
        | none =>
          have hle : l = [] := by
            rcases List.eq_nil_or_concat l with h | ⟨_, _, h⟩
            · exact h
            · exact absurd (Hq2.out.2.2.2 (by rw [h]; simp)) (by rintro ⟨_, h, _⟩; cases h)
          subst hle
          obtain rfl : n2 = 0 := by have := Hn2.out; simpa using this.symm
          try simp only [List.cons_append, List.nil_append, List.append_eq]
          refine wp_region_held_drew (S := (fun w' => w'.cell? ⟨W.heap.size, 0, none⟩ = some (.int .i64 x) ∧ w'.cell? ⟨W.heap.size, 1, none⟩ = some (.int .i64 y))) (by kernel_rfl) ?_ (fun hHeld0 => ?_)
          · (try dsimp only); (first | go_keep | exact BX.cells (BX.call Hq2.out hL.out.1))
          refine wpAnyH_take (i := 0) (oi := { dst := some 21, op := Go.Op.load 25 (Go.Operand.tmp 3), type := 25, pos := "l15_stack.go:84", after := #[], guard := none }) (v := ?_) rfl (by kernel_rfl) (by kernel_rfl) (by kernel_rfl) (fun _ _ _ h => h) (Or.inl ⟨by rfl, ?_⟩) (by assumption) ?_
          rotate_left
          · (intro w hSw; (try dsimp only at hSw); go_simp; try with_reducible rfl)
          try simp only [Act.put, List.setIfInBounds_toArray, List.set_cons_zero, List.set_cons_succ]
          refine wpAnyH_take (i := 1) (oi := { dst := some 22, op := Go.Op.move (Go.Operand.tmp 1), type := 37, pos := "l15_stack.go:84", after := #[], guard := none }) (v := ?_) rfl (by kernel_rfl) (by kernel_rfl) (by kernel_rfl) (fun _ _ _ h => h) (Or.inl ⟨by rfl, ?_⟩) (by assumption) ?_
          rotate_left
          · (intro w hSw; (try dsimp only at hSw); go_simp; try with_reducible rfl)
          try simp only [Act.put, List.setIfInBounds_toArray, List.set_cons_zero, List.set_cons_succ]
          refine wpAnyH_take (i := 3) (oi := { dst := some 24, op := Go.Op.move (Go.Operand.tmp 2), type := 32, pos := "l15_stack.go:84", after := #[], guard := none }) (v := ?_) rfl (by kernel_rfl) (by kernel_rfl) (by kernel_rfl) (fun _ _ _ h => h) (Or.inl ⟨by rfl, ?_⟩) (by assumption) ?_
          rotate_left
          · (intro w hSw; (try dsimp only at hSw); go_simp; try with_reducible rfl)
          try simp only [Act.put, List.setIfInBounds_toArray, List.set_cons_zero, List.set_cons_succ]
          refine wpAnyH_ready (rs := [2, 10]) (by kernel_rfl) (by simp) ?_
          refine (AllReadyH.cons (o := { dst := some 23, op := Go.Op.buildSlice 32 0 #[], type := 32, pos := "l15_stack.go:84", after := #[], guard := none }) rfl (fun K2 hK2 => ?_) (AllReadyH.cons (o := { dst := some 7, op := Go.Op.alloc 27, type := 0, pos := "l15_stack.go:84", after := #[], guard := none }) rfl (fun K10 hK10 => ?_) AllReadyH.nil))
          · as_aux_lemma =>
              (go_simp; have q := LM.slice hL.out; (try simp only [World.size_alloc, World.size_drew] at q); replace hL := Lib.hid q; clear q)
              refine hK2.out _ _ ?_ (fun hHeld1 => ?_)
              · (try dsimp only); (first | go_keep | exact BX.cells (BX.call Hq2.out hL.out.1))
              clear hK2 K2 hHeld0
              try simp only [Act.put, List.setIfInBounds_toArray, List.set_cons_zero, List.set_cons_succ]
              refine wpAnyH_ready (rs := [4, 10]) (by kernel_rfl) (by simp) ?_
              refine (AllReadyH.cons (o := { dst := some 25, op := Go.Op.call { callee := Go.Callee.builtin Go.Builtin.append, args := #[Go.Operand.tmp 23, Go.Operand.tmp 24], argTypes := #[32, 32] }, type := 32, pos := "l15_stack.go:84", after := #[{ on := 2, ground := Go.Ground.data }, { on := 3, ground := Go.Ground.data }], guard := none }) rfl (fun K4 hK4 => ?_) (AllReadyH.cons (o := { dst := some 7, op := Go.Op.alloc 27, type := 0, pos := "l15_stack.go:84", after := #[], guard := none }) rfl (fun K10 hK10 => ?_) AllReadyH.nil))
              · as_aux_lemma =>
                  go_simp
                  refine hK4.out _ _ ?_ (fun hHeld2 => ?_)
                  · (try dsimp only); (first | go_keep | exact BX.cells (BX.call Hq2.out hL.out.1))
                  clear hK4 K4 hHeld1
                  try simp only [Act.put, List.setIfInBounds_toArray, List.set_cons_zero, List.set_cons_succ]
                  refine wpAnyH_ready (rs := [5, 10]) (by kernel_rfl) (by simp) ?_
                  refine (AllReadyH.cons (o := { dst := some 26, op := Go.Op.call { callee := Go.Callee.value (Go.Operand.func 74), args := #[Go.Operand.tmp 21, Go.Operand.tmp 22, Go.Operand.tmp 25], argTypes := #[25, 37, 32] }, type := 89, pos := "l15_stack.go:84", after := #[{ on := 0, ground := Go.Ground.data }, { on := 1, ground := Go.Ground.data }, { on := 4, ground := Go.Ground.data }, { on := 4, ground := Go.Ground.chain }], guard := none }) rfl (fun K5 hK5 => ?_) (AllReadyH.cons (o := { dst := some 7, op := Go.Op.alloc 27, type := 0, pos := "l15_stack.go:84", after := #[], guard := none }) rfl (fun K10 hK10 => ?_) AllReadyH.nil))
                  · as_aux_lemma =>
                      go_simp
                      (refine (HPop.out _ w2.heap.size _ hL.out.1.size (MxIn.more (Hq2.out.call hL.out.1).2.2.1 hws) (LM.own hL.out)).mono ?_; rintro e v1 ⟨z, hz', rfl, hb, hg⟩; have q := LM.run hL.out hg; replace hL := Lib.hid q; obtain ⟨d0, d1⟩ := BX.cells (BX.call Hq2.out q.1); clear q hb hg)
                      go_wp2_with fail
                      refine hK5.out _ _ ?_ (fun hHeld3 => ?_)
                      · (try dsimp only); (first | go_keep | exact BX.cells (BX.call Hq2.out hL.out.1))
                      clear hK5 K5 hHeld2
                      try simp only [Act.put, List.setIfInBounds_toArray, List.set_cons_zero, List.set_cons_succ]
                      refine wpAnyH_take (i := 6) (oi := { dst := some 20, op := Go.Op.move (Go.Operand.tmp 26), type := 89, pos := "l15_stack.go:84", after := #[{ on := 5, ground := Go.Ground.data }], guard := none }) (v := ?_) rfl (by kernel_rfl) (by kernel_rfl) (by kernel_rfl) (fun _ _ _ h => h) (Or.inl ⟨by rfl, ?_⟩) (by assumption) ?_
                      rotate_left
                      · (intro w hSw; (try dsimp only at hSw); go_simp; try with_reducible rfl)
                      try simp only [Act.put, List.setIfInBounds_toArray, List.set_cons_zero, List.set_cons_succ]
                      refine wpAnyH_take (i := 7) (oi := { dst := some 27, op := Go.Op.extract (Go.Operand.tmp 20) 0, type := 27, pos := "l15_stack.go:84", after := #[{ on := 6, ground := Go.Ground.data }], guard := none }) (v := ?_) rfl (by kernel_rfl) (by kernel_rfl) (by kernel_rfl) (fun _ _ _ h => h) (Or.inl ⟨by rfl, ?_⟩) (by assumption) ?_
                      rotate_left
                      · (intro w hSw; (try dsimp only at hSw); go_simp; try with_reducible rfl)
                      try simp only [Act.put, List.setIfInBounds_toArray, List.set_cons_zero, List.set_cons_succ]
                      refine wpAnyH_take (i := 8) (oi := { dst := some 28, op := Go.Op.extract (Go.Operand.tmp 20) 1, type := 3, pos := "l15_stack.go:84", after := #[{ on := 6, ground := Go.Ground.data }, { on := 11, ground := Go.Ground.gcOnly Go.Departure.lateStores }], guard := none }) (v := ?_) rfl (by kernel_rfl) (by kernel_rfl) (by kernel_rfl) (fun _ _ _ h => h) (Or.inl ⟨by rfl, ?_⟩) (by assumption) ?_
                      rotate_left
                      · (intro w hSw; (try dsimp only at hSw); go_simp; try with_reducible rfl)
                      try simp only [Act.put, List.setIfInBounds_toArray, List.set_cons_zero, List.set_cons_succ]
                      refine wpAnyH_take (i := 9) (oi := { dst := some 29, op := Go.Op.extract (Go.Operand.tmp 20) 2, type := 4, pos := "l15_stack.go:84", after := #[{ on := 6, ground := Go.Ground.data }, { on := 12, ground := Go.Ground.gcOnly Go.Departure.lateStores }], guard := none }) (v := ?_) rfl (by kernel_rfl) (by kernel_rfl) (by kernel_rfl) (fun _ _ _ h => h) (Or.inl ⟨by rfl, ?_⟩) (by assumption) ?_
                      rotate_left
                      · (intro w hSw; (try dsimp only at hSw); go_simp; try with_reducible rfl)
                      try simp only [Act.put, List.setIfInBounds_toArray, List.set_cons_zero, List.set_cons_succ]
                      refine wpAnyH_ready (rs := [10]) (by kernel_rfl) (by simp) ?_
                      refine AllReadyH.cons (o := { dst := some 7, op := Go.Op.alloc 27, type := 0, pos := "l15_stack.go:84", after := #[], guard := none }) rfl (fun K10 hK10 => ?_) AllReadyH.nil
                      (go_simp; have hLo := hL; have q := LM.pop hL.out; (try simp only [World.size_alloc, World.size_drew] at q); replace hL := Lib.hid q; clear q)
                      refine hK10.out _ _ ?_ (fun hHeld4 => ?_)
                      · (try dsimp only); (first | go_keep | exact BX.cells (BX.call Hq2.out hL.out.1))
                      clear hK10 K10 hHeld3
                      try simp only [Act.put, List.setIfInBounds_toArray, List.set_cons_zero, List.set_cons_succ]
                      refine wpAnyH_ready (rs := [11]) (by kernel_rfl) (by simp) ?_
                      refine AllReadyH.cons (o := { dst := none, op := Go.Op.store 27 (Go.Operand.tmp 7) (Go.Operand.tmp 27), type := 0, pos := "l15_stack.go:84", after := #[{ on := 10, ground := Go.Ground.data }, { on := 7, ground := Go.Ground.data }, { on := 5, ground := Go.Ground.chain }, { on := 0, ground := Go.Ground.phase }, { on := 1, ground := Go.Ground.phase }, { on := 2, ground := Go.Ground.phase }, { on := 3, ground := Go.Ground.phase }, { on := 4, ground := Go.Ground.phase }, { on := 5, ground := Go.Ground.phase }, { on := 6, ground := Go.Ground.phase }, { on := 7, ground := Go.Ground.phase }, { on := 8, ground := Go.Ground.textOnly Go.Departure.lateStores }, { on := 9, ground := Go.Ground.textOnly Go.Departure.lateStores }, { on := 10, ground := Go.Ground.phase }], guard := none }) rfl (fun K11 hK11 => ?_) AllReadyH.nil
                      (obtain ⟨⟨y0, y1, y2⟩, f0, f1, f2⟩ := row3_cells (LM.zero hL.out); go_simp)
                      refine hK11.out _ _ ?_ (fun hHeld5 => ?_)
                      · (try dsimp only); (first | with_reducible exact BX.cells (BX.call Hq2.out (LM.done (x := x) (y := y) (z := z) hL.out).2) | with_reducible exact BX.cells (BX.call Hq2.out (LM.made (x := x) (y := y) (z := z) hLo.out rfl).2))
                      clear hK11 K11 hHeld4
                      try simp only [Act.put]
                      refine wpAnyH_take (i := 12) (oi := { dst := some 8, op := Go.Op.assign (Go.Operand.tmp 28), type := 3, pos := "l15_stack.go:84", after := #[{ on := 8, ground := Go.Ground.data }, { on := 11, ground := Go.Ground.chain }, { on := 0, ground := Go.Ground.phase }, { on := 1, ground := Go.Ground.phase }, { on := 2, ground := Go.Ground.phase }, { on := 3, ground := Go.Ground.phase }, { on := 4, ground := Go.Ground.phase }, { on := 5, ground := Go.Ground.phase }, { on := 6, ground := Go.Ground.phase }, { on := 7, ground := Go.Ground.phase }, { on := 8, ground := Go.Ground.phase }, { on := 9, ground := Go.Ground.textOnly Go.Departure.lateStores }, { on := 10, ground := Go.Ground.phase }, { on := 11, ground := Go.Ground.phase }], guard := none }) (v := ?_) rfl (by kernel_rfl) (by kernel_rfl) (by kernel_rfl) (fun _ _ _ h => h) (Or.inl ⟨by rfl, ?_⟩) (by assumption) ?_
                      rotate_left
                      · (intro w hSw; (try dsimp only at hSw); go_simp; try with_reducible rfl)
                      try simp only [Act.put, List.setIfInBounds_toArray, List.set_cons_zero, List.set_cons_succ]
                      refine wpAnyH_take (i := 13) (oi := { dst := some 9, op := Go.Op.assign (Go.Operand.tmp 29), type := 4, pos := "l15_stack.go:84", after := #[{ on := 9, ground := Go.Ground.data }, { on := 12, ground := Go.Ground.chain }, { on := 0, ground := Go.Ground.phase }, { on := 1, ground := Go.Ground.phase }, { on := 2, ground := Go.Ground.phase }, { on := 3, ground := Go.Ground.phase }, { on := 4, ground := Go.Ground.phase }, { on := 5, ground := Go.Ground.phase }, { on := 6, ground := Go.Ground.phase }, { on := 7, ground := Go.Ground.phase }, { on := 8, ground := Go.Ground.phase }, { on := 9, ground := Go.Ground.phase }, { on := 10, ground := Go.Ground.phase }, { on := 11, ground := Go.Ground.phase }, { on := 12, ground := Go.Ground.phase }], guard := none }) (v := ?_) rfl (by kernel_rfl) (by kernel_rfl) (by kernel_rfl) (fun _ _ _ h => h) (Or.inl ⟨by rfl, ?_⟩) (by assumption) ?_
                      rotate_left
                      · (intro w hSw; (try dsimp only at hSw); go_simp; try with_reducible rfl)
                      try simp only [Act.put, List.setIfInBounds_toArray, List.set_cons_zero, List.set_cons_succ]
                      refine wpAnyH_done (by kernel_rfl) ?_ _
                      (go_wp2_with fail; go_meet; first | (with_reducible exact ⟨_, z, rfl, rfl, rfl, hz', (LM.done hL.out).1, BX.call Hq2.out (LM.done hL.out).2⟩) | (with_reducible exact ⟨_, z, rfl, rfl, rfl, hz', (LM.made hLo.out (by simp)).1, BX.call Hq2.out (LM.made hLo.out rfl).2⟩) | (trace_state; sorry))
                  · as_aux_lemma =>
                      (go_simp; have hLo := hL; have q := LM.pop hL.out; (try simp only [World.size_alloc, World.size_drew] at q); replace hL := Lib.hid q; clear q)
                      refine hK10.out _ _ ?_ (fun hHeld3 => ?_)
                      · (try dsimp only); (first | go_keep | exact BX.cells (BX.call Hq2.out hL.out.1))
                      clear hK10 K10 hHeld2
                      try simp only [Act.put, List.setIfInBounds_toArray, List.set_cons_zero, List.set_cons_succ]
                      refine wpAnyH_ready (rs := [5]) (by kernel_rfl) (by simp) ?_
                      refine AllReadyH.cons (o := { dst := some 26, op := Go.Op.call { callee := Go.Callee.value (Go.Operand.func 74), args := #[Go.Operand.tmp 21, Go.Operand.tmp 22, Go.Operand.tmp 25], argTypes := #[25, 37, 32] }, type := 89, pos := "l15_stack.go:84", after := #[{ on := 0, ground := Go.Ground.data }, { on := 1, ground := Go.Ground.data }, { on := 4, ground := Go.Ground.data }, { on := 4, ground := Go.Ground.chain }], guard := none }) rfl (fun K5 hK5 => ?_) AllReadyH.nil
                      go_simp
                      (refine (HPop.out _ w2.heap.size _ hL.out.1.size (MxIn.more (Hq2.out.call hL.out.1).2.2.1 hws) (LM.own hL.out)).mono ?_; rintro e v1 ⟨z, hz', rfl, hb, hg⟩; have q := LM.run hL.out hg; replace hL := Lib.hid q; obtain ⟨d0, d1⟩ := BX.cells (BX.call Hq2.out q.1); clear q hb hg)
                      go_wp2_with fail
                      refine hK5.out _ _ ?_ (fun hHeld4 => ?_)
                      · (try dsimp only); (first | go_keep | exact BX.cells (BX.call Hq2.out hL.out.1))
                      clear hK5 K5 hHeld3
                      try simp only [Act.put, List.setIfInBounds_toArray, List.set_cons_zero, List.set_cons_succ]
                      refine wpAnyH_take (i := 6) (oi := { dst := some 20, op := Go.Op.move (Go.Operand.tmp 26), type := 89, pos := "l15_stack.go:84", after := #[{ on := 5, ground := Go.Ground.data }], guard := none }) (v := ?_) rfl (by kernel_rfl) (by kernel_rfl) (by kernel_rfl) (fun _ _ _ h => h) (Or.inl ⟨by rfl, ?_⟩) (by assumption) ?_
                      rotate_left
                      · (intro w hSw; (try dsimp only at hSw); go_simp; try with_reducible rfl)
                      try simp only [Act.put, List.setIfInBounds_toArray, List.set_cons_zero, List.set_cons_succ]
                      refine wpAnyH_take (i := 7) (oi := { dst := some 27, op := Go.Op.extract (Go.Operand.tmp 20) 0, type := 27, pos := "l15_stack.go:84", after := #[{ on := 6, ground := Go.Ground.data }], guard := none }) (v := ?_) rfl (by kernel_rfl) (by kernel_rfl) (by kernel_rfl) (fun _ _ _ h => h) (Or.inl ⟨by rfl, ?_⟩) (by assumption) ?_
                      rotate_left
                      · (intro w hSw; (try dsimp only at hSw); go_simp; try with_reducible rfl)
                      try simp only [Act.put, List.setIfInBounds_toArray, List.set_cons_zero, List.set_cons_succ]
                      refine wpAnyH_take (i := 8) (oi := { dst := some 28, op := Go.Op.extract (Go.Operand.tmp 20) 1, type := 3, pos := "l15_stack.go:84", after := #[{ on := 6, ground := Go.Ground.data }, { on := 11, ground := Go.Ground.gcOnly Go.Departure.lateStores }], guard := none }) (v := ?_) rfl (by kernel_rfl) (by kernel_rfl) (by kernel_rfl) (fun _ _ _ h => h) (Or.inl ⟨by rfl, ?_⟩) (by assumption) ?_
                      rotate_left
                      · (intro w hSw; (try dsimp only at hSw); go_simp; try with_reducible rfl)
                      try simp only [Act.put, List.setIfInBounds_toArray, List.set_cons_zero, List.set_cons_succ]
                      refine wpAnyH_take (i := 9) (oi := { dst := some 29, op := Go.Op.extract (Go.Operand.tmp 20) 2, type := 4, pos := "l15_stack.go:84", after := #[{ on := 6, ground := Go.Ground.data }, { on := 12, ground := Go.Ground.gcOnly Go.Departure.lateStores }], guard := none }) (v := ?_) rfl (by kernel_rfl) (by kernel_rfl) (by kernel_rfl) (fun _ _ _ h => h) (Or.inl ⟨by rfl, ?_⟩) (by assumption) ?_
                      rotate_left
                      · (intro w hSw; (try dsimp only at hSw); go_simp; try with_reducible rfl)
                      try simp only [Act.put, List.setIfInBounds_toArray, List.set_cons_zero, List.set_cons_succ]
                      refine wpAnyH_ready (rs := [11]) (by kernel_rfl) (by simp) ?_
                      refine AllReadyH.cons (o := { dst := none, op := Go.Op.store 27 (Go.Operand.tmp 7) (Go.Operand.tmp 27), type := 0, pos := "l15_stack.go:84", after := #[{ on := 10, ground := Go.Ground.data }, { on := 7, ground := Go.Ground.data }, { on := 5, ground := Go.Ground.chain }, { on := 0, ground := Go.Ground.phase }, { on := 1, ground := Go.Ground.phase }, { on := 2, ground := Go.Ground.phase }, { on := 3, ground := Go.Ground.phase }, { on := 4, ground := Go.Ground.phase }, { on := 5, ground := Go.Ground.phase }, { on := 6, ground := Go.Ground.phase }, { on := 7, ground := Go.Ground.phase }, { on := 8, ground := Go.Ground.textOnly Go.Departure.lateStores }, { on := 9, ground := Go.Ground.textOnly Go.Departure.lateStores }, { on := 10, ground := Go.Ground.phase }], guard := none }) rfl (fun K11 hK11 => ?_) AllReadyH.nil
                      (obtain ⟨⟨y0, y1, y2⟩, f0, f1, f2⟩ := row3_cells (LM.zero hL.out); go_simp)
                      refine hK11.out _ _ ?_ (fun hHeld5 => ?_)
                      · (try dsimp only); (first | with_reducible exact BX.cells (BX.call Hq2.out (LM.done (x := x) (y := y) (z := z) hL.out).2) | with_reducible exact BX.cells (BX.call Hq2.out (LM.made (x := x) (y := y) (z := z) hLo.out rfl).2))
                      clear hK11 K11 hHeld4
                      try simp only [Act.put]
                      refine wpAnyH_take (i := 12) (oi := { dst := some 8, op := Go.Op.assign (Go.Operand.tmp 28), type := 3, pos := "l15_stack.go:84", after := #[{ on := 8, ground := Go.Ground.data }, { on := 11, ground := Go.Ground.chain }, { on := 0, ground := Go.Ground.phase }, { on := 1, ground := Go.Ground.phase }, { on := 2, ground := Go.Ground.phase }, { on := 3, ground := Go.Ground.phase }, { on := 4, ground := Go.Ground.phase }, { on := 5, ground := Go.Ground.phase }, { on := 6, ground := Go.Ground.phase }, { on := 7, ground := Go.Ground.phase }, { on := 8, ground := Go.Ground.phase }, { on := 9, ground := Go.Ground.textOnly Go.Departure.lateStores }, { on := 10, ground := Go.Ground.phase }, { on := 11, ground := Go.Ground.phase }], guard := none }) (v := ?_) rfl (by kernel_rfl) (by kernel_rfl) (by kernel_rfl) (fun _ _ _ h => h) (Or.inl ⟨by rfl, ?_⟩) (by assumption) ?_
                      rotate_left
                      · (intro w hSw; (try dsimp only at hSw); go_simp; try with_reducible rfl)
                      try simp only [Act.put, List.setIfInBounds_toArray, List.set_cons_zero, List.set_cons_succ]
                      refine wpAnyH_take (i := 13) (oi := { dst := some 9, op := Go.Op.assign (Go.Operand.tmp 29), type := 4, pos := "l15_stack.go:84", after := #[{ on := 9, ground := Go.Ground.data }, { on := 12, ground := Go.Ground.chain }, { on := 0, ground := Go.Ground.phase }, { on := 1, ground := Go.Ground.phase }, { on := 2, ground := Go.Ground.phase }, { on := 3, ground := Go.Ground.phase }, { on := 4, ground := Go.Ground.phase }, { on := 5, ground := Go.Ground.phase }, { on := 6, ground := Go.Ground.phase }, { on := 7, ground := Go.Ground.phase }, { on := 8, ground := Go.Ground.phase }, { on := 9, ground := Go.Ground.phase }, { on := 10, ground := Go.Ground.phase }, { on := 11, ground := Go.Ground.phase }, { on := 12, ground := Go.Ground.phase }], guard := none }) (v := ?_) rfl (by kernel_rfl) (by kernel_rfl) (by kernel_rfl) (fun _ _ _ h => h) (Or.inl ⟨by rfl, ?_⟩) (by assumption) ?_
                      rotate_left
                      · (intro w hSw; (try dsimp only at hSw); go_simp; try with_reducible rfl)
                      try simp only [Act.put, List.setIfInBounds_toArray, List.set_cons_zero, List.set_cons_succ]
                      refine wpAnyH_done (by kernel_rfl) ?_ _
                      (go_wp2_with fail; go_meet; first | (with_reducible exact ⟨_, z, rfl, rfl, rfl, hz', (LM.done hL.out).1, BX.call Hq2.out (LM.done hL.out).2⟩) | (with_reducible exact ⟨_, z, rfl, rfl, rfl, hz', (LM.made hLo.out (by simp)).1, BX.call Hq2.out (LM.made hLo.out rfl).2⟩) | (trace_state; sorry))
              · as_aux_lemma =>
                  (go_simp; have hLo := hL; have q := LM.pop hL.out; (try simp only [World.size_alloc, World.size_drew] at q); replace hL := Lib.hid q; clear q)
                  refine hK10.out _ _ ?_ (fun hHeld2 => ?_)
                  · (try dsimp only); (first | go_keep | exact BX.cells (BX.call Hq2.out hL.out.1))
                  clear hK10 K10 hHeld1
                  try simp only [Act.put, List.setIfInBounds_toArray, List.set_cons_zero, List.set_cons_succ]
                  refine wpAnyH_ready (rs := [4]) (by kernel_rfl) (by simp) ?_
                  refine AllReadyH.cons (o := { dst := some 25, op := Go.Op.call { callee := Go.Callee.builtin Go.Builtin.append, args := #[Go.Operand.tmp 23, Go.Operand.tmp 24], argTypes := #[32, 32] }, type := 32, pos := "l15_stack.go:84", after := #[{ on := 2, ground := Go.Ground.data }, { on := 3, ground := Go.Ground.data }], guard := none }) rfl (fun K4 hK4 => ?_) AllReadyH.nil
                  go_simp
                  refine hK4.out _ _ ?_ (fun hHeld3 => ?_)
                  · (try dsimp only); (first | go_keep | exact BX.cells (BX.call Hq2.out hL.out.1))
                  clear hK4 K4 hHeld2
                  try simp only [Act.put, List.setIfInBounds_toArray, List.set_cons_zero, List.set_cons_succ]
                  refine wpAnyH_ready (rs := [5]) (by kernel_rfl) (by simp) ?_
                  refine AllReadyH.cons (o := { dst := some 26, op := Go.Op.call { callee := Go.Callee.value (Go.Operand.func 74), args := #[Go.Operand.tmp 21, Go.Operand.tmp 22, Go.Operand.tmp 25], argTypes := #[25, 37, 32] }, type := 89, pos := "l15_stack.go:84", after := #[{ on := 0, ground := Go.Ground.data }, { on := 1, ground := Go.Ground.data }, { on := 4, ground := Go.Ground.data }, { on := 4, ground := Go.Ground.chain }], guard := none }) rfl (fun K5 hK5 => ?_) AllReadyH.nil
                  go_simp
                  (refine (HPop.out _ w2.heap.size _ hL.out.1.size (MxIn.more (Hq2.out.call hL.out.1).2.2.1 hws) (LM.own hL.out)).mono ?_; rintro e v1 ⟨z, hz', rfl, hb, hg⟩; have q := LM.run hL.out hg; replace hL := Lib.hid q; obtain ⟨d0, d1⟩ := BX.cells (BX.call Hq2.out q.1); clear q hb hg)
                  go_wp2_with fail
                  refine hK5.out _ _ ?_ (fun hHeld4 => ?_)
                  · (try dsimp only); (first | go_keep | exact BX.cells (BX.call Hq2.out hL.out.1))
                  clear hK5 K5 hHeld3
                  try simp only [Act.put, List.setIfInBounds_toArray, List.set_cons_zero, List.set_cons_succ]
                  refine wpAnyH_take (i := 6) (oi := { dst := some 20, op := Go.Op.move (Go.Operand.tmp 26), type := 89, pos := "l15_stack.go:84", after := #[{ on := 5, ground := Go.Ground.data }], guard := none }) (v := ?_) rfl (by kernel_rfl) (by kernel_rfl) (by kernel_rfl) (fun _ _ _ h => h) (Or.inl ⟨by rfl, ?_⟩) (by assumption) ?_
                  rotate_left
                  · (intro w hSw; (try dsimp only at hSw); go_simp; try with_reducible rfl)
                  try simp only [Act.put, List.setIfInBounds_toArray, List.set_cons_zero, List.set_cons_succ]
                  refine wpAnyH_take (i := 7) (oi := { dst := some 27, op := Go.Op.extract (Go.Operand.tmp 20) 0, type := 27, pos := "l15_stack.go:84", after := #[{ on := 6, ground := Go.Ground.data }], guard := none }) (v := ?_) rfl (by kernel_rfl) (by kernel_rfl) (by kernel_rfl) (fun _ _ _ h => h) (Or.inl ⟨by rfl, ?_⟩) (by assumption) ?_
                  rotate_left
                  · (intro w hSw; (try dsimp only at hSw); go_simp; try with_reducible rfl)
                  try simp only [Act.put, List.setIfInBounds_toArray, List.set_cons_zero, List.set_cons_succ]
                  refine wpAnyH_take (i := 8) (oi := { dst := some 28, op := Go.Op.extract (Go.Operand.tmp 20) 1, type := 3, pos := "l15_stack.go:84", after := #[{ on := 6, ground := Go.Ground.data }, { on := 11, ground := Go.Ground.gcOnly Go.Departure.lateStores }], guard := none }) (v := ?_) rfl (by kernel_rfl) (by kernel_rfl) (by kernel_rfl) (fun _ _ _ h => h) (Or.inl ⟨by rfl, ?_⟩) (by assumption) ?_
                  rotate_left
                  · (intro w hSw; (try dsimp only at hSw); go_simp; try with_reducible rfl)
                  try simp only [Act.put, List.setIfInBounds_toArray, List.set_cons_zero, List.set_cons_succ]
                  refine wpAnyH_take (i := 9) (oi := { dst := some 29, op := Go.Op.extract (Go.Operand.tmp 20) 2, type := 4, pos := "l15_stack.go:84", after := #[{ on := 6, ground := Go.Ground.data }, { on := 12, ground := Go.Ground.gcOnly Go.Departure.lateStores }], guard := none }) (v := ?_) rfl (by kernel_rfl) (by kernel_rfl) (by kernel_rfl) (fun _ _ _ h => h) (Or.inl ⟨by rfl, ?_⟩) (by assumption) ?_
                  rotate_left
                  · (intro w hSw; (try dsimp only at hSw); go_simp; try with_reducible rfl)
                  try simp only [Act.put, List.setIfInBounds_toArray, List.set_cons_zero, List.set_cons_succ]
                  refine wpAnyH_ready (rs := [11]) (by kernel_rfl) (by simp) ?_
                  refine AllReadyH.cons (o := { dst := none, op := Go.Op.store 27 (Go.Operand.tmp 7) (Go.Operand.tmp 27), type := 0, pos := "l15_stack.go:84", after := #[{ on := 10, ground := Go.Ground.data }, { on := 7, ground := Go.Ground.data }, { on := 5, ground := Go.Ground.chain }, { on := 0, ground := Go.Ground.phase }, { on := 1, ground := Go.Ground.phase }, { on := 2, ground := Go.Ground.phase }, { on := 3, ground := Go.Ground.phase }, { on := 4, ground := Go.Ground.phase }, { on := 5, ground := Go.Ground.phase }, { on := 6, ground := Go.Ground.phase }, { on := 7, ground := Go.Ground.phase }, { on := 8, ground := Go.Ground.textOnly Go.Departure.lateStores }, { on := 9, ground := Go.Ground.textOnly Go.Departure.lateStores }, { on := 10, ground := Go.Ground.phase }], guard := none }) rfl (fun K11 hK11 => ?_) AllReadyH.nil
                  (obtain ⟨⟨y0, y1, y2⟩, f0, f1, f2⟩ := row3_cells (LM.zero hL.out); go_simp)
                  refine hK11.out _ _ ?_ (fun hHeld5 => ?_)
                  · (try dsimp only); (first | with_reducible exact BX.cells (BX.call Hq2.out (LM.done (x := x) (y := y) (z := z) hL.out).2) | with_reducible exact BX.cells (BX.call Hq2.out (LM.made (x := x) (y := y) (z := z) hLo.out rfl).2))
                  clear hK11 K11 hHeld4
                  try simp only [Act.put]
                  refine wpAnyH_take (i := 12) (oi := { dst := some 8, op := Go.Op.assign (Go.Operand.tmp 28), type := 3, pos := "l15_stack.go:84", after := #[{ on := 8, ground := Go.Ground.data }, { on := 11, ground := Go.Ground.chain }, { on := 0, ground := Go.Ground.phase }, { on := 1, ground := Go.Ground.phase }, { on := 2, ground := Go.Ground.phase }, { on := 3, ground := Go.Ground.phase }, { on := 4, ground := Go.Ground.phase }, { on := 5, ground := Go.Ground.phase }, { on := 6, ground := Go.Ground.phase }, { on := 7, ground := Go.Ground.phase }, { on := 8, ground := Go.Ground.phase }, { on := 9, ground := Go.Ground.textOnly Go.Departure.lateStores }, { on := 10, ground := Go.Ground.phase }, { on := 11, ground := Go.Ground.phase }], guard := none }) (v := ?_) rfl (by kernel_rfl) (by kernel_rfl) (by kernel_rfl) (fun _ _ _ h => h) (Or.inl ⟨by rfl, ?_⟩) (by assumption) ?_
                  rotate_left
                  · (intro w hSw; (try dsimp only at hSw); go_simp; try with_reducible rfl)
                  try simp only [Act.put, List.setIfInBounds_toArray, List.set_cons_zero, List.set_cons_succ]
                  refine wpAnyH_take (i := 13) (oi := { dst := some 9, op := Go.Op.assign (Go.Operand.tmp 29), type := 4, pos := "l15_stack.go:84", after := #[{ on := 9, ground := Go.Ground.data }, { on := 12, ground := Go.Ground.chain }, { on := 0, ground := Go.Ground.phase }, { on := 1, ground := Go.Ground.phase }, { on := 2, ground := Go.Ground.phase }, { on := 3, ground := Go.Ground.phase }, { on := 4, ground := Go.Ground.phase }, { on := 5, ground := Go.Ground.phase }, { on := 6, ground := Go.Ground.phase }, { on := 7, ground := Go.Ground.phase }, { on := 8, ground := Go.Ground.phase }, { on := 9, ground := Go.Ground.phase }, { on := 10, ground := Go.Ground.phase }, { on := 11, ground := Go.Ground.phase }, { on := 12, ground := Go.Ground.phase }], guard := none }) (v := ?_) rfl (by kernel_rfl) (by kernel_rfl) (by kernel_rfl) (fun _ _ _ h => h) (Or.inl ⟨by rfl, ?_⟩) (by assumption) ?_
                  rotate_left
                  · (intro w hSw; (try dsimp only at hSw); go_simp; try with_reducible rfl)
                  try simp only [Act.put, List.setIfInBounds_toArray, List.set_cons_zero, List.set_cons_succ]
                  refine wpAnyH_done (by kernel_rfl) ?_ _
                  (go_wp2_with fail; go_meet; first | (with_reducible exact ⟨_, z, rfl, rfl, rfl, hz', (LM.done hL.out).1, BX.call Hq2.out (LM.done hL.out).2⟩) | (with_reducible exact ⟨_, z, rfl, rfl, rfl, hz', (LM.made hLo.out (by simp)).1, BX.call Hq2.out (LM.made hLo.out rfl).2⟩) | (trace_state; sorry))
          · as_aux_lemma =>
              (go_simp; have hLo := hL; have q := LM.pop hL.out; (try simp only [World.size_alloc, World.size_drew] at q); replace hL := Lib.hid q; clear q)
              refine hK10.out _ _ ?_ (fun hHeld1 => ?_)
              · (try dsimp only); (first | go_keep | exact BX.cells (BX.call Hq2.out hL.out.1))
              clear hK10 K10 hHeld0
              try simp only [Act.put, List.setIfInBounds_toArray, List.set_cons_zero, List.set_cons_succ]
              refine wpAnyH_ready (rs := [2]) (by kernel_rfl) (by simp) ?_
              refine AllReadyH.cons (o := { dst := some 23, op := Go.Op.buildSlice 32 0 #[], type := 32, pos := "l15_stack.go:84", after := #[], guard := none }) rfl (fun K2 hK2 => ?_) AllReadyH.nil
              (go_simp; have q := LM.slice hL.out; (try simp only [World.size_alloc, World.size_drew] at q); replace hL := Lib.hid q; clear q)
              refine hK2.out _ _ ?_ (fun hHeld2 => ?_)
              · (try dsimp only); (first | go_keep | exact BX.cells (BX.call Hq2.out hL.out.1))
              clear hK2 K2 hHeld1
              try simp only [Act.put, List.setIfInBounds_toArray, List.set_cons_zero, List.set_cons_succ]
              refine wpAnyH_ready (rs := [4]) (by kernel_rfl) (by simp) ?_
              refine AllReadyH.cons (o := { dst := some 25, op := Go.Op.call { callee := Go.Callee.builtin Go.Builtin.append, args := #[Go.Operand.tmp 23, Go.Operand.tmp 24], argTypes := #[32, 32] }, type := 32, pos := "l15_stack.go:84", after := #[{ on := 2, ground := Go.Ground.data }, { on := 3, ground := Go.Ground.data }], guard := none }) rfl (fun K4 hK4 => ?_) AllReadyH.nil
              go_simp
              refine hK4.out _ _ ?_ (fun hHeld3 => ?_)
              · (try dsimp only); (first | go_keep | exact BX.cells (BX.call Hq2.out hL.out.1))
              clear hK4 K4 hHeld2
              try simp only [Act.put, List.setIfInBounds_toArray, List.set_cons_zero, List.set_cons_succ]
              refine wpAnyH_ready (rs := [5]) (by kernel_rfl) (by simp) ?_
              refine AllReadyH.cons (o := { dst := some 26, op := Go.Op.call { callee := Go.Callee.value (Go.Operand.func 74), args := #[Go.Operand.tmp 21, Go.Operand.tmp 22, Go.Operand.tmp 25], argTypes := #[25, 37, 32] }, type := 89, pos := "l15_stack.go:84", after := #[{ on := 0, ground := Go.Ground.data }, { on := 1, ground := Go.Ground.data }, { on := 4, ground := Go.Ground.data }, { on := 4, ground := Go.Ground.chain }], guard := none }) rfl (fun K5 hK5 => ?_) AllReadyH.nil
              go_simp
              (refine (HPop.out _ w2.heap.size _ hL.out.1.size (MxIn.more (Hq2.out.call hL.out.1).2.2.1 hws) (LM.own hL.out)).mono ?_; rintro e v1 ⟨z, hz', rfl, hb, hg⟩; have q := LM.run hL.out hg; replace hL := Lib.hid q; obtain ⟨d0, d1⟩ := BX.cells (BX.call Hq2.out q.1); clear q hb hg)
              go_wp2_with fail
              refine hK5.out _ _ ?_ (fun hHeld4 => ?_)
              · (try dsimp only); (first | go_keep | exact BX.cells (BX.call Hq2.out hL.out.1))
              clear hK5 K5 hHeld3
              try simp only [Act.put, List.setIfInBounds_toArray, List.set_cons_zero, List.set_cons_succ]
              refine wpAnyH_take (i := 6) (oi := { dst := some 20, op := Go.Op.move (Go.Operand.tmp 26), type := 89, pos := "l15_stack.go:84", after := #[{ on := 5, ground := Go.Ground.data }], guard := none }) (v := ?_) rfl (by kernel_rfl) (by kernel_rfl) (by kernel_rfl) (fun _ _ _ h => h) (Or.inl ⟨by rfl, ?_⟩) (by assumption) ?_
              rotate_left
              · (intro w hSw; (try dsimp only at hSw); go_simp; try with_reducible rfl)
              try simp only [Act.put, List.setIfInBounds_toArray, List.set_cons_zero, List.set_cons_succ]
              refine wpAnyH_take (i := 7) (oi := { dst := some 27, op := Go.Op.extract (Go.Operand.tmp 20) 0, type := 27, pos := "l15_stack.go:84", after := #[{ on := 6, ground := Go.Ground.data }], guard := none }) (v := ?_) rfl (by kernel_rfl) (by kernel_rfl) (by kernel_rfl) (fun _ _ _ h => h) (Or.inl ⟨by rfl, ?_⟩) (by assumption) ?_
              rotate_left
              · (intro w hSw; (try dsimp only at hSw); go_simp; try with_reducible rfl)
              try simp only [Act.put, List.setIfInBounds_toArray, List.set_cons_zero, List.set_cons_succ]
              refine wpAnyH_take (i := 8) (oi := { dst := some 28, op := Go.Op.extract (Go.Operand.tmp 20) 1, type := 3, pos := "l15_stack.go:84", after := #[{ on := 6, ground := Go.Ground.data }, { on := 11, ground := Go.Ground.gcOnly Go.Departure.lateStores }], guard := none }) (v := ?_) rfl (by kernel_rfl) (by kernel_rfl) (by kernel_rfl) (fun _ _ _ h => h) (Or.inl ⟨by rfl, ?_⟩) (by assumption) ?_
              rotate_left
              · (intro w hSw; (try dsimp only at hSw); go_simp; try with_reducible rfl)
              try simp only [Act.put, List.setIfInBounds_toArray, List.set_cons_zero, List.set_cons_succ]
              refine wpAnyH_take (i := 9) (oi := { dst := some 29, op := Go.Op.extract (Go.Operand.tmp 20) 2, type := 4, pos := "l15_stack.go:84", after := #[{ on := 6, ground := Go.Ground.data }, { on := 12, ground := Go.Ground.gcOnly Go.Departure.lateStores }], guard := none }) (v := ?_) rfl (by kernel_rfl) (by kernel_rfl) (by kernel_rfl) (fun _ _ _ h => h) (Or.inl ⟨by rfl, ?_⟩) (by assumption) ?_
              rotate_left
              · (intro w hSw; (try dsimp only at hSw); go_simp; try with_reducible rfl)
              try simp only [Act.put, List.setIfInBounds_toArray, List.set_cons_zero, List.set_cons_succ]
              refine wpAnyH_ready (rs := [11]) (by kernel_rfl) (by simp) ?_
              refine AllReadyH.cons (o := { dst := none, op := Go.Op.store 27 (Go.Operand.tmp 7) (Go.Operand.tmp 27), type := 0, pos := "l15_stack.go:84", after := #[{ on := 10, ground := Go.Ground.data }, { on := 7, ground := Go.Ground.data }, { on := 5, ground := Go.Ground.chain }, { on := 0, ground := Go.Ground.phase }, { on := 1, ground := Go.Ground.phase }, { on := 2, ground := Go.Ground.phase }, { on := 3, ground := Go.Ground.phase }, { on := 4, ground := Go.Ground.phase }, { on := 5, ground := Go.Ground.phase }, { on := 6, ground := Go.Ground.phase }, { on := 7, ground := Go.Ground.phase }, { on := 8, ground := Go.Ground.textOnly Go.Departure.lateStores }, { on := 9, ground := Go.Ground.textOnly Go.Departure.lateStores }, { on := 10, ground := Go.Ground.phase }], guard := none }) rfl (fun K11 hK11 => ?_) AllReadyH.nil
              (obtain ⟨⟨y0, y1, y2⟩, f0, f1, f2⟩ := row3_cells (LM.zero hL.out); go_simp)
              refine hK11.out _ _ ?_ (fun hHeld5 => ?_)
              · (try dsimp only); (first | with_reducible exact BX.cells (BX.call Hq2.out (LM.done (x := x) (y := y) (z := z) hL.out).2) | with_reducible exact BX.cells (BX.call Hq2.out (LM.made (x := x) (y := y) (z := z) hLo.out rfl).2))
              clear hK11 K11 hHeld4
              try simp only [Act.put]
              refine wpAnyH_take (i := 12) (oi := { dst := some 8, op := Go.Op.assign (Go.Operand.tmp 28), type := 3, pos := "l15_stack.go:84", after := #[{ on := 8, ground := Go.Ground.data }, { on := 11, ground := Go.Ground.chain }, { on := 0, ground := Go.Ground.phase }, { on := 1, ground := Go.Ground.phase }, { on := 2, ground := Go.Ground.phase }, { on := 3, ground := Go.Ground.phase }, { on := 4, ground := Go.Ground.phase }, { on := 5, ground := Go.Ground.phase }, { on := 6, ground := Go.Ground.phase }, { on := 7, ground := Go.Ground.phase }, { on := 8, ground := Go.Ground.phase }, { on := 9, ground := Go.Ground.textOnly Go.Departure.lateStores }, { on := 10, ground := Go.Ground.phase }, { on := 11, ground := Go.Ground.phase }], guard := none }) (v := ?_) rfl (by kernel_rfl) (by kernel_rfl) (by kernel_rfl) (fun _ _ _ h => h) (Or.inl ⟨by rfl, ?_⟩) (by assumption) ?_
              rotate_left
              · (intro w hSw; (try dsimp only at hSw); go_simp; try with_reducible rfl)
              try simp only [Act.put, List.setIfInBounds_toArray, List.set_cons_zero, List.set_cons_succ]
              refine wpAnyH_take (i := 13) (oi := { dst := some 9, op := Go.Op.assign (Go.Operand.tmp 29), type := 4, pos := "l15_stack.go:84", after := #[{ on := 9, ground := Go.Ground.data }, { on := 12, ground := Go.Ground.chain }, { on := 0, ground := Go.Ground.phase }, { on := 1, ground := Go.Ground.phase }, { on := 2, ground := Go.Ground.phase }, { on := 3, ground := Go.Ground.phase }, { on := 4, ground := Go.Ground.phase }, { on := 5, ground := Go.Ground.phase }, { on := 6, ground := Go.Ground.phase }, { on := 7, ground := Go.Ground.phase }, { on := 8, ground := Go.Ground.phase }, { on := 9, ground := Go.Ground.phase }, { on := 10, ground := Go.Ground.phase }, { on := 11, ground := Go.Ground.phase }, { on := 12, ground := Go.Ground.phase }], guard := none }) (v := ?_) rfl (by kernel_rfl) (by kernel_rfl) (by kernel_rfl) (fun _ _ _ h => h) (Or.inl ⟨by rfl, ?_⟩) (by assumption) ?_
              rotate_left
              · (intro w hSw; (try dsimp only at hSw); go_simp; try with_reducible rfl)
              try simp only [Act.put, List.setIfInBounds_toArray, List.set_cons_zero, List.set_cons_succ]
              refine wpAnyH_done (by kernel_rfl) ?_ _
              (go_wp2_with fail; go_meet; first | (with_reducible exact ⟨_, z, rfl, rfl, rfl, hz', (LM.done hL.out).1, BX.call Hq2.out (LM.done hL.out).2⟩) | (with_reducible exact ⟨_, z, rfl, rfl, rfl, hz', (LM.made hLo.out (by simp)).1, BX.call Hq2.out (LM.made hLo.out rfl).2⟩) | (trace_state; sorry))
        | some a2 =>
          have HCs : Hid (∀ X, Below W.heap.size W X → ∀ j u, (icells l)[j]? = some u → X.cell? (a2.add j) = some u) := Lib.hid fun X hX j u hu => by
            have hne : l ≠ [] := by
              rintro rfl; simp [icells] at hu
            obtain ⟨a', e, hlt, hc⟩ := Hq2.out.2.2.2 hne
            cases e
            have h0 := Hq2.out.1
            unfold icells at hu
            rw [List.getElem?_map] at hu
            cases hl : l[j]? with
            | none => rw [hl] at hu; cases hu
            | some z =>
              rw [hl] at hu
              have h1 := hc j z hl
              rw [h0.cell (by rw [block_of_add]; exact hlt)] at h1
              rw [hX.cell (by rw [block_of_add]; exact hlt), h1, ← Option.some.inj hu]
          try simp only [List.cons_append, List.nil_append, List.append_eq]
          refine wp_region_held_drew (S := (fun w' => w'.cell? ⟨W.heap.size, 0, none⟩ = some (.int .i64 x) ∧ w'.cell? ⟨W.heap.size, 1, none⟩ = some (.int .i64 y))) (by kernel_rfl) ?_ (fun hHeld0 => ?_)
          · (try dsimp only); (first | go_keep | exact BX.cells (BX.call Hq2.out hL.out.1))
          refine wpAnyH_take (i := 0) (oi := { dst := some 21, op := Go.Op.load 25 (Go.Operand.tmp 3), type := 25, pos := "l15_stack.go:84", after := #[], guard := none }) (v := ?_) rfl (by kernel_rfl) (by kernel_rfl) (by kernel_rfl) (fun _ _ _ h => h) (Or.inl ⟨by rfl, ?_⟩) (by assumption) ?_
          rotate_left
          · (intro w hSw; (try dsimp only at hSw); go_simp; try with_reducible rfl)
          try simp only [Act.put, List.setIfInBounds_toArray, List.set_cons_zero, List.set_cons_succ]
          refine wpAnyH_take (i := 1) (oi := { dst := some 22, op := Go.Op.move (Go.Operand.tmp 1), type := 37, pos := "l15_stack.go:84", after := #[], guard := none }) (v := ?_) rfl (by kernel_rfl) (by kernel_rfl) (by kernel_rfl) (fun _ _ _ h => h) (Or.inl ⟨by rfl, ?_⟩) (by assumption) ?_
          rotate_left
          · (intro w hSw; (try dsimp only at hSw); go_simp; try with_reducible rfl)
          try simp only [Act.put, List.setIfInBounds_toArray, List.set_cons_zero, List.set_cons_succ]
          refine wpAnyH_take (i := 3) (oi := { dst := some 24, op := Go.Op.move (Go.Operand.tmp 2), type := 32, pos := "l15_stack.go:84", after := #[], guard := none }) (v := ?_) rfl (by kernel_rfl) (by kernel_rfl) (by kernel_rfl) (fun _ _ _ h => h) (Or.inl ⟨by rfl, ?_⟩) (by assumption) ?_
          rotate_left
          · (intro w hSw; (try dsimp only at hSw); go_simp; try with_reducible rfl)
          try simp only [Act.put, List.setIfInBounds_toArray, List.set_cons_zero, List.set_cons_succ]
          refine wpAnyH_ready (rs := [2, 10]) (by kernel_rfl) (by simp) ?_
          refine (AllReadyH.cons (o := { dst := some 23, op := Go.Op.buildSlice 32 0 #[], type := 32, pos := "l15_stack.go:84", after := #[], guard := none }) rfl (fun K2 hK2 => ?_) (AllReadyH.cons (o := { dst := some 7, op := Go.Op.alloc 27, type := 0, pos := "l15_stack.go:84", after := #[], guard := none }) rfl (fun K10 hK10 => ?_) AllReadyH.nil))
          · as_aux_lemma =>
              (go_simp; have q := LM.slice hL.out; (try simp only [World.size_alloc, World.size_drew] at q); replace hL := Lib.hid q; clear q)
              refine hK2.out _ _ ?_ (fun hHeld1 => ?_)
              · (try dsimp only); (first | go_keep | exact BX.cells (BX.call Hq2.out hL.out.1))
              clear hK2 K2 hHeld0
              try simp only [Act.put, List.setIfInBounds_toArray, List.set_cons_zero, List.set_cons_succ]
              refine wpAnyH_ready (rs := [4, 10]) (by kernel_rfl) (by simp) ?_
              refine (AllReadyH.cons (o := { dst := some 25, op := Go.Op.call { callee := Go.Callee.builtin Go.Builtin.append, args := #[Go.Operand.tmp 23, Go.Operand.tmp 24], argTypes := #[32, 32] }, type := 32, pos := "l15_stack.go:84", after := #[{ on := 2, ground := Go.Ground.data }, { on := 3, ground := Go.Ground.data }], guard := none }) rfl (fun K4 hK4 => ?_) (AllReadyH.cons (o := { dst := some 7, op := Go.Op.alloc 27, type := 0, pos := "l15_stack.go:84", after := #[], guard := none }) rfl (fun K10 hK10 => ?_) AllReadyH.nil))
              · as_aux_lemma =>
                  refine step_app rfl (.tmp 23) (.tmp 24) 32 rfl w2.heap.size 3 i0 _ 1 8 Try.underlying32 hi0 hz0 hz1 hz2 rfl (by decide) _ 0 [] rfl (LM.own hL.out) a2 n2 c2 (icells l) rfl (by rw [icells_length, Hn2.out]; simp) (HCs.out _ (Hq2.out.call hL.out.1).1) (oneCellI _) n2 (icells l) (Nat.zero_add n2) rfl (by unfold maxLen; omega) (by omega) hL.out.1.size ?_; intro A3 c3 w3 o3 g3; have q := LM.app (l' := l) hL.out (by rw [Hn2.out]; exact o3) g3; replace hL := Lib.hid q; clear q o3 g3
                  refine hK4.out _ _ ?_ (fun hHeld2 => ?_)
                  · (try dsimp only); (first | go_keep | exact BX.cells (BX.call Hq2.out hL.out.1))
                  clear hK4 K4 hHeld1
                  try simp only [Act.put, List.setIfInBounds_toArray, List.set_cons_zero, List.set_cons_succ]
                  refine wpAnyH_ready (rs := [5, 10]) (by kernel_rfl) (by simp) ?_
                  refine (AllReadyH.cons (o := { dst := some 26, op := Go.Op.call { callee := Go.Callee.value (Go.Operand.func 74), args := #[Go.Operand.tmp 21, Go.Operand.tmp 22, Go.Operand.tmp 25], argTypes := #[25, 37, 32] }, type := 89, pos := "l15_stack.go:84", after := #[{ on := 0, ground := Go.Ground.data }, { on := 1, ground := Go.Ground.data }, { on := 4, ground := Go.Ground.data }, { on := 4, ground := Go.Ground.chain }], guard := none }) rfl (fun K5 hK5 => ?_) (AllReadyH.cons (o := { dst := some 7, op := Go.Op.alloc 27, type := 0, pos := "l15_stack.go:84", after := #[], guard := none }) rfl (fun K10 hK10 => ?_) AllReadyH.nil))
                  · as_aux_lemma =>
                      go_simp
                      (refine (HPop.out _ w2.heap.size _ hL.out.1.size (MxIn.more (Hq2.out.call hL.out.1).2.2.1 hws) (LM.own hL.out)).mono ?_; rintro e v1 ⟨z, hz', rfl, hb, hg⟩; have q := LM.run hL.out hg; replace hL := Lib.hid q; obtain ⟨d0, d1⟩ := BX.cells (BX.call Hq2.out q.1); clear q hb hg)
                      go_wp2_with fail
                      refine hK5.out _ _ ?_ (fun hHeld3 => ?_)
                      · (try dsimp only); (first | go_keep | exact BX.cells (BX.call Hq2.out hL.out.1))
                      clear hK5 K5 hHeld2
                      try simp only [Act.put, List.setIfInBounds_toArray, List.set_cons_zero, List.set_cons_succ]
                      refine wpAnyH_take (i := 6) (oi := { dst := some 20, op := Go.Op.move (Go.Operand.tmp 26), type := 89, pos := "l15_stack.go:84", after := #[{ on := 5, ground := Go.Ground.data }], guard := none }) (v := ?_) rfl (by kernel_rfl) (by kernel_rfl) (by kernel_rfl) (fun _ _ _ h => h) (Or.inl ⟨by rfl, ?_⟩) (by assumption) ?_
                      rotate_left
                      · (intro w hSw; (try dsimp only at hSw); go_simp; try with_reducible rfl)
                      try simp only [Act.put, List.setIfInBounds_toArray, List.set_cons_zero, List.set_cons_succ]
                      refine wpAnyH_take (i := 7) (oi := { dst := some 27, op := Go.Op.extract (Go.Operand.tmp 20) 0, type := 27, pos := "l15_stack.go:84", after := #[{ on := 6, ground := Go.Ground.data }], guard := none }) (v := ?_) rfl (by kernel_rfl) (by kernel_rfl) (by kernel_rfl) (fun _ _ _ h => h) (Or.inl ⟨by rfl, ?_⟩) (by assumption) ?_
                      rotate_left
                      · (intro w hSw; (try dsimp only at hSw); go_simp; try with_reducible rfl)
                      try simp only [Act.put, List.setIfInBounds_toArray, List.set_cons_zero, List.set_cons_succ]
                      refine wpAnyH_take (i := 8) (oi := { dst := some 28, op := Go.Op.extract (Go.Operand.tmp 20) 1, type := 3, pos := "l15_stack.go:84", after := #[{ on := 6, ground := Go.Ground.data }, { on := 11, ground := Go.Ground.gcOnly Go.Departure.lateStores }], guard := none }) (v := ?_) rfl (by kernel_rfl) (by kernel_rfl) (by kernel_rfl) (fun _ _ _ h => h) (Or.inl ⟨by rfl, ?_⟩) (by assumption) ?_
                      rotate_left
                      · (intro w hSw; (try dsimp only at hSw); go_simp; try with_reducible rfl)
                      try simp only [Act.put, List.setIfInBounds_toArray, List.set_cons_zero, List.set_cons_succ]
                      refine wpAnyH_take (i := 9) (oi := { dst := some 29, op := Go.Op.extract (Go.Operand.tmp 20) 2, type := 4, pos := "l15_stack.go:84", after := #[{ on := 6, ground := Go.Ground.data }, { on := 12, ground := Go.Ground.gcOnly Go.Departure.lateStores }], guard := none }) (v := ?_) rfl (by kernel_rfl) (by kernel_rfl) (by kernel_rfl) (fun _ _ _ h => h) (Or.inl ⟨by rfl, ?_⟩) (by assumption) ?_
                      rotate_left
                      · (intro w hSw; (try dsimp only at hSw); go_simp; try with_reducible rfl)
                      try simp only [Act.put, List.setIfInBounds_toArray, List.set_cons_zero, List.set_cons_succ]
                      refine wpAnyH_ready (rs := [10]) (by kernel_rfl) (by simp) ?_
                      refine AllReadyH.cons (o := { dst := some 7, op := Go.Op.alloc 27, type := 0, pos := "l15_stack.go:84", after := #[], guard := none }) rfl (fun K10 hK10 => ?_) AllReadyH.nil
                      (go_simp; have hLo := hL; have q := LM.pop hL.out; (try simp only [World.size_alloc, World.size_drew] at q); replace hL := Lib.hid q; clear q)
                      refine hK10.out _ _ ?_ (fun hHeld4 => ?_)
                      · (try dsimp only); (first | go_keep | exact BX.cells (BX.call Hq2.out hL.out.1))
                      clear hK10 K10 hHeld3
                      try simp only [Act.put, List.setIfInBounds_toArray, List.set_cons_zero, List.set_cons_succ]
                      refine wpAnyH_ready (rs := [11]) (by kernel_rfl) (by simp) ?_
                      refine AllReadyH.cons (o := { dst := none, op := Go.Op.store 27 (Go.Operand.tmp 7) (Go.Operand.tmp 27), type := 0, pos := "l15_stack.go:84", after := #[{ on := 10, ground := Go.Ground.data }, { on := 7, ground := Go.Ground.data }, { on := 5, ground := Go.Ground.chain }, { on := 0, ground := Go.Ground.phase }, { on := 1, ground := Go.Ground.phase }, { on := 2, ground := Go.Ground.phase }, { on := 3, ground := Go.Ground.phase }, { on := 4, ground := Go.Ground.phase }, { on := 5, ground := Go.Ground.phase }, { on := 6, ground := Go.Ground.phase }, { on := 7, ground := Go.Ground.phase }, { on := 8, ground := Go.Ground.textOnly Go.Departure.lateStores }, { on := 9, ground := Go.Ground.textOnly Go.Departure.lateStores }, { on := 10, ground := Go.Ground.phase }], guard := none }) rfl (fun K11 hK11 => ?_) AllReadyH.nil
                      (obtain ⟨⟨y0, y1, y2⟩, f0, f1, f2⟩ := row3_cells (LM.zero hL.out); go_simp)
                      refine hK11.out _ _ ?_ (fun hHeld5 => ?_)
                      · (try dsimp only); (first | with_reducible exact BX.cells (BX.call Hq2.out (LM.done (x := x) (y := y) (z := z) hL.out).2) | with_reducible exact BX.cells (BX.call Hq2.out (LM.made (x := x) (y := y) (z := z) hLo.out rfl).2))
                      clear hK11 K11 hHeld4
                      try simp only [Act.put]
                      refine wpAnyH_take (i := 12) (oi := { dst := some 8, op := Go.Op.assign (Go.Operand.tmp 28), type := 3, pos := "l15_stack.go:84", after := #[{ on := 8, ground := Go.Ground.data }, { on := 11, ground := Go.Ground.chain }, { on := 0, ground := Go.Ground.phase }, { on := 1, ground := Go.Ground.phase }, { on := 2, ground := Go.Ground.phase }, { on := 3, ground := Go.Ground.phase }, { on := 4, ground := Go.Ground.phase }, { on := 5, ground := Go.Ground.phase }, { on := 6, ground := Go.Ground.phase }, { on := 7, ground := Go.Ground.phase }, { on := 8, ground := Go.Ground.phase }, { on := 9, ground := Go.Ground.textOnly Go.Departure.lateStores }, { on := 10, ground := Go.Ground.phase }, { on := 11, ground := Go.Ground.phase }], guard := none }) (v := ?_) rfl (by kernel_rfl) (by kernel_rfl) (by kernel_rfl) (fun _ _ _ h => h) (Or.inl ⟨by rfl, ?_⟩) (by assumption) ?_
                      rotate_left
                      · (intro w hSw; (try dsimp only at hSw); go_simp; try with_reducible rfl)
                      try simp only [Act.put, List.setIfInBounds_toArray, List.set_cons_zero, List.set_cons_succ]
                      refine wpAnyH_take (i := 13) (oi := { dst := some 9, op := Go.Op.assign (Go.Operand.tmp 29), type := 4, pos := "l15_stack.go:84", after := #[{ on := 9, ground := Go.Ground.data }, { on := 12, ground := Go.Ground.chain }, { on := 0, ground := Go.Ground.phase }, { on := 1, ground := Go.Ground.phase }, { on := 2, ground := Go.Ground.phase }, { on := 3, ground := Go.Ground.phase }, { on := 4, ground := Go.Ground.phase }, { on := 5, ground := Go.Ground.phase }, { on := 6, ground := Go.Ground.phase }, { on := 7, ground := Go.Ground.phase }, { on := 8, ground := Go.Ground.phase }, { on := 9, ground := Go.Ground.phase }, { on := 10, ground := Go.Ground.phase }, { on := 11, ground := Go.Ground.phase }, { on := 12, ground := Go.Ground.phase }], guard := none }) (v := ?_) rfl (by kernel_rfl) (by kernel_rfl) (by kernel_rfl) (fun _ _ _ h => h) (Or.inl ⟨by rfl, ?_⟩) (by assumption) ?_
                      rotate_left
                      · (intro w hSw; (try dsimp only at hSw); go_simp; try with_reducible rfl)
                      try simp only [Act.put, List.setIfInBounds_toArray, List.set_cons_zero, List.set_cons_succ]
                      refine wpAnyH_done (by kernel_rfl) ?_ _
                      (go_wp2_with fail; go_meet; first | (with_reducible exact ⟨_, z, rfl, rfl, rfl, hz', (LM.done hL.out).1, BX.call Hq2.out (LM.done hL.out).2⟩) | (with_reducible exact ⟨_, z, rfl, rfl, rfl, hz', (LM.made hLo.out (by simp)).1, BX.call Hq2.out (LM.made hLo.out rfl).2⟩) | (trace_state; sorry))
                  · as_aux_lemma =>
                      (go_simp; have hLo := hL; have q := LM.pop hL.out; (try simp only [World.size_alloc, World.size_drew] at q); replace hL := Lib.hid q; clear q)
                      refine hK10.out _ _ ?_ (fun hHeld3 => ?_)
                      · (try dsimp only); (first | go_keep | exact BX.cells (BX.call Hq2.out hL.out.1))
                      clear hK10 K10 hHeld2
                      try simp only [Act.put, List.setIfInBounds_toArray, List.set_cons_zero, List.set_cons_succ]
                      refine wpAnyH_ready (rs := [5]) (by kernel_rfl) (by simp) ?_
                      refine AllReadyH.cons (o := { dst := some 26, op := Go.Op.call { callee := Go.Callee.value (Go.Operand.func 74), args := #[Go.Operand.tmp 21, Go.Operand.tmp 22, Go.Operand.tmp 25], argTypes := #[25, 37, 32] }, type := 89, pos := "l15_stack.go:84", after := #[{ on := 0, ground := Go.Ground.data }, { on := 1, ground := Go.Ground.data }, { on := 4, ground := Go.Ground.data }, { on := 4, ground := Go.Ground.chain }], guard := none }) rfl (fun K5 hK5 => ?_) AllReadyH.nil
                      go_simp
                      (refine (HPop.out _ w2.heap.size _ hL.out.1.size (MxIn.more (Hq2.out.call hL.out.1).2.2.1 hws) (LM.own hL.out)).mono ?_; rintro e v1 ⟨z, hz', rfl, hb, hg⟩; have q := LM.run hL.out hg; replace hL := Lib.hid q; obtain ⟨d0, d1⟩ := BX.cells (BX.call Hq2.out q.1); clear q hb hg)
                      go_wp2_with fail
                      refine hK5.out _ _ ?_ (fun hHeld4 => ?_)
                      · (try dsimp only); (first | go_keep | exact BX.cells (BX.call Hq2.out hL.out.1))
                      clear hK5 K5 hHeld3
                      try simp only [Act.put, List.setIfInBounds_toArray, List.set_cons_zero, List.set_cons_succ]
                      refine wpAnyH_take (i := 6) (oi := { dst := some 20, op := Go.Op.move (Go.Operand.tmp 26), type := 89, pos := "l15_stack.go:84", after := #[{ on := 5, ground := Go.Ground.data }], guard := none }) (v := ?_) rfl (by kernel_rfl) (by kernel_rfl) (by kernel_rfl) (fun _ _ _ h => h) (Or.inl ⟨by rfl, ?_⟩) (by assumption) ?_
                      rotate_left
                      · (intro w hSw; (try dsimp only at hSw); go_simp; try with_reducible rfl)
                      try simp only [Act.put, List.setIfInBounds_toArray, List.set_cons_zero, List.set_cons_succ]
                      refine wpAnyH_take (i := 7) (oi := { dst := some 27, op := Go.Op.extract (Go.Operand.tmp 20) 0, type := 27, pos := "l15_stack.go:84", after := #[{ on := 6, ground := Go.Ground.data }], guard := none }) (v := ?_) rfl (by kernel_rfl) (by kernel_rfl) (by kernel_rfl) (fun _ _ _ h => h) (Or.inl ⟨by rfl, ?_⟩) (by assumption) ?_
                      rotate_left
                      · (intro w hSw; (try dsimp only at hSw); go_simp; try with_reducible rfl)
                      try simp only [Act.put, List.setIfInBounds_toArray, List.set_cons_zero, List.set_cons_succ]
                      refine wpAnyH_take (i := 8) (oi := { dst := some 28, op := Go.Op.extract (Go.Operand.tmp 20) 1, type := 3, pos := "l15_stack.go:84", after := #[{ on := 6, ground := Go.Ground.data }, { on := 11, ground := Go.Ground.gcOnly Go.Departure.lateStores }], guard := none }) (v := ?_) rfl (by kernel_rfl) (by kernel_rfl) (by kernel_rfl) (fun _ _ _ h => h) (Or.inl ⟨by rfl, ?_⟩) (by assumption) ?_
                      rotate_left
                      · (intro w hSw; (try dsimp only at hSw); go_simp; try with_reducible rfl)
                      try simp only [Act.put, List.setIfInBounds_toArray, List.set_cons_zero, List.set_cons_succ]
                      refine wpAnyH_take (i := 9) (oi := { dst := some 29, op := Go.Op.extract (Go.Operand.tmp 20) 2, type := 4, pos := "l15_stack.go:84", after := #[{ on := 6, ground := Go.Ground.data }, { on := 12, ground := Go.Ground.gcOnly Go.Departure.lateStores }], guard := none }) (v := ?_) rfl (by kernel_rfl) (by kernel_rfl) (by kernel_rfl) (fun _ _ _ h => h) (Or.inl ⟨by rfl, ?_⟩) (by assumption) ?_
                      rotate_left
                      · (intro w hSw; (try dsimp only at hSw); go_simp; try with_reducible rfl)
                      try simp only [Act.put, List.setIfInBounds_toArray, List.set_cons_zero, List.set_cons_succ]
                      refine wpAnyH_ready (rs := [11]) (by kernel_rfl) (by simp) ?_
                      refine AllReadyH.cons (o := { dst := none, op := Go.Op.store 27 (Go.Operand.tmp 7) (Go.Operand.tmp 27), type := 0, pos := "l15_stack.go:84", after := #[{ on := 10, ground := Go.Ground.data }, { on := 7, ground := Go.Ground.data }, { on := 5, ground := Go.Ground.chain }, { on := 0, ground := Go.Ground.phase }, { on := 1, ground := Go.Ground.phase }, { on := 2, ground := Go.Ground.phase }, { on := 3, ground := Go.Ground.phase }, { on := 4, ground := Go.Ground.phase }, { on := 5, ground := Go.Ground.phase }, { on := 6, ground := Go.Ground.phase }, { on := 7, ground := Go.Ground.phase }, { on := 8, ground := Go.Ground.textOnly Go.Departure.lateStores }, { on := 9, ground := Go.Ground.textOnly Go.Departure.lateStores }, { on := 10, ground := Go.Ground.phase }], guard := none }) rfl (fun K11 hK11 => ?_) AllReadyH.nil
                      (obtain ⟨⟨y0, y1, y2⟩, f0, f1, f2⟩ := row3_cells (LM.zero hL.out); go_simp)
                      refine hK11.out _ _ ?_ (fun hHeld5 => ?_)
                      · (try dsimp only); (first | with_reducible exact BX.cells (BX.call Hq2.out (LM.done (x := x) (y := y) (z := z) hL.out).2) | with_reducible exact BX.cells (BX.call Hq2.out (LM.made (x := x) (y := y) (z := z) hLo.out rfl).2))
                      clear hK11 K11 hHeld4
                      try simp only [Act.put]
                      refine wpAnyH_take (i := 12) (oi := { dst := some 8, op := Go.Op.assign (Go.Operand.tmp 28), type := 3, pos := "l15_stack.go:84", after := #[{ on := 8, ground := Go.Ground.data }, { on := 11, ground := Go.Ground.chain }, { on := 0, ground := Go.Ground.phase }, { on := 1, ground := Go.Ground.phase }, { on := 2, ground := Go.Ground.phase }, { on := 3, ground := Go.Ground.phase }, { on := 4, ground := Go.Ground.phase }, { on := 5, ground := Go.Ground.phase }, { on := 6, ground := Go.Ground.phase }, { on := 7, ground := Go.Ground.phase }, { on := 8, ground := Go.Ground.phase }, { on := 9, ground := Go.Ground.textOnly Go.Departure.lateStores }, { on := 10, ground := Go.Ground.phase }, { on := 11, ground := Go.Ground.phase }], guard := none }) (v := ?_) rfl (by kernel_rfl) (by kernel_rfl) (by kernel_rfl) (fun _ _ _ h => h) (Or.inl ⟨by rfl, ?_⟩) (by assumption) ?_
                      rotate_left
                      · (intro w hSw; (try dsimp only at hSw); go_simp; try with_reducible rfl)
                      try simp only [Act.put, List.setIfInBounds_toArray, List.set_cons_zero, List.set_cons_succ]
                      refine wpAnyH_take (i := 13) (oi := { dst := some 9, op := Go.Op.assign (Go.Operand.tmp 29), type := 4, pos := "l15_stack.go:84", after := #[{ on := 9, ground := Go.Ground.data }, { on := 12, ground := Go.Ground.chain }, { on := 0, ground := Go.Ground.phase }, { on := 1, ground := Go.Ground.phase }, { on := 2, ground := Go.Ground.phase }, { on := 3, ground := Go.Ground.phase }, { on := 4, ground := Go.Ground.phase }, { on := 5, ground := Go.Ground.phase }, { on := 6, ground := Go.Ground.phase }, { on := 7, ground := Go.Ground.phase }, { on := 8, ground := Go.Ground.phase }, { on := 9, ground := Go.Ground.phase }, { on := 10, ground := Go.Ground.phase }, { on := 11, ground := Go.Ground.phase }, { on := 12, ground := Go.Ground.phase }], guard := none }) (v := ?_) rfl (by kernel_rfl) (by kernel_rfl) (by kernel_rfl) (fun _ _ _ h => h) (Or.inl ⟨by rfl, ?_⟩) (by assumption) ?_
                      rotate_left
                      · (intro w hSw; (try dsimp only at hSw); go_simp; try with_reducible rfl)
                      try simp only [Act.put, List.setIfInBounds_toArray, List.set_cons_zero, List.set_cons_succ]
                      refine wpAnyH_done (by kernel_rfl) ?_ _
                      (go_wp2_with fail; go_meet; first | (with_reducible exact ⟨_, z, rfl, rfl, rfl, hz', (LM.done hL.out).1, BX.call Hq2.out (LM.done hL.out).2⟩) | (with_reducible exact ⟨_, z, rfl, rfl, rfl, hz', (LM.made hLo.out (by simp)).1, BX.call Hq2.out (LM.made hLo.out rfl).2⟩) | (trace_state; sorry))
              · as_aux_lemma =>
                  (go_simp; have hLo := hL; have q := LM.pop hL.out; (try simp only [World.size_alloc, World.size_drew] at q); replace hL := Lib.hid q; clear q)
                  refine hK10.out _ _ ?_ (fun hHeld2 => ?_)
                  · (try dsimp only); (first | go_keep | exact BX.cells (BX.call Hq2.out hL.out.1))
                  clear hK10 K10 hHeld1
                  try simp only [Act.put, List.setIfInBounds_toArray, List.set_cons_zero, List.set_cons_succ]
                  refine wpAnyH_ready (rs := [4]) (by kernel_rfl) (by simp) ?_
                  refine AllReadyH.cons (o := { dst := some 25, op := Go.Op.call { callee := Go.Callee.builtin Go.Builtin.append, args := #[Go.Operand.tmp 23, Go.Operand.tmp 24], argTypes := #[32, 32] }, type := 32, pos := "l15_stack.go:84", after := #[{ on := 2, ground := Go.Ground.data }, { on := 3, ground := Go.Ground.data }], guard := none }) rfl (fun K4 hK4 => ?_) AllReadyH.nil
                  refine step_app rfl (.tmp 23) (.tmp 24) 32 rfl w2.heap.size 3 i0 _ 1 8 Try.underlying32 hi0 hz0 hz1 hz2 rfl (by decide) _ 0 [] rfl (LM.own hL.out) a2 n2 c2 (icells l) rfl (by rw [icells_length, Hn2.out]; simp) (HCs.out _ (Hq2.out.call hL.out.1).1) (oneCellI _) n2 (icells l) (Nat.zero_add n2) rfl (by unfold maxLen; omega) (by omega) hL.out.1.size ?_; intro A3 c3 w3 o3 g3; have q := LM.app (l' := l) hL.out (by rw [Hn2.out]; exact o3) g3; replace hL := Lib.hid q; clear q o3 g3
                  refine hK4.out _ _ ?_ (fun hHeld3 => ?_)
                  · (try dsimp only); (first | go_keep | exact BX.cells (BX.call Hq2.out hL.out.1))
                  clear hK4 K4 hHeld2
                  try simp only [Act.put, List.setIfInBounds_toArray, List.set_cons_zero, List.set_cons_succ]
                  refine wpAnyH_ready (rs := [5]) (by kernel_rfl) (by simp) ?_
                  refine AllReadyH.cons (o := { dst := some 26, op := Go.Op.call { callee := Go.Callee.value (Go.Operand.func 74), args := #[Go.Operand.tmp 21, Go.Operand.tmp 22, Go.Operand.tmp 25], argTypes := #[25, 37, 32] }, type := 89, pos := "l15_stack.go:84", after := #[{ on := 0, ground := Go.Ground.data }, { on := 1, ground := Go.Ground.data }, { on := 4, ground := Go.Ground.data }, { on := 4, ground := Go.Ground.chain }], guard := none }) rfl (fun K5 hK5 => ?_) AllReadyH.nil
                  go_simp
                  (refine (HPop.out _ w2.heap.size _ hL.out.1.size (MxIn.more (Hq2.out.call hL.out.1).2.2.1 hws) (LM.own hL.out)).mono ?_; rintro e v1 ⟨z, hz', rfl, hb, hg⟩; have q := LM.run hL.out hg; replace hL := Lib.hid q; obtain ⟨d0, d1⟩ := BX.cells (BX.call Hq2.out q.1); clear q hb hg)
                  go_wp2_with fail
                  refine hK5.out _ _ ?_ (fun hHeld4 => ?_)
                  · (try dsimp only); (first | go_keep | exact BX.cells (BX.call Hq2.out hL.out.1))
                  clear hK5 K5 hHeld3
                  try simp only [Act.put, List.setIfInBounds_toArray, List.set_cons_zero, List.set_cons_succ]
                  refine wpAnyH_take (i := 6) (oi := { dst := some 20, op := Go.Op.move (Go.Operand.tmp 26), type := 89, pos := "l15_stack.go:84", after := #[{ on := 5, ground := Go.Ground.data }], guard := none }) (v := ?_) rfl (by kernel_rfl) (by kernel_rfl) (by kernel_rfl) (fun _ _ _ h => h) (Or.inl ⟨by rfl, ?_⟩) (by assumption) ?_
                  rotate_left
                  · (intro w hSw; (try dsimp only at hSw); go_simp; try with_reducible rfl)
                  try simp only [Act.put, List.setIfInBounds_toArray, List.set_cons_zero, List.set_cons_succ]
                  refine wpAnyH_take (i := 7) (oi := { dst := some 27, op := Go.Op.extract (Go.Operand.tmp 20) 0, type := 27, pos := "l15_stack.go:84", after := #[{ on := 6, ground := Go.Ground.data }], guard := none }) (v := ?_) rfl (by kernel_rfl) (by kernel_rfl) (by kernel_rfl) (fun _ _ _ h => h) (Or.inl ⟨by rfl, ?_⟩) (by assumption) ?_
                  rotate_left
                  · (intro w hSw; (try dsimp only at hSw); go_simp; try with_reducible rfl)
                  try simp only [Act.put, List.setIfInBounds_toArray, List.set_cons_zero, List.set_cons_succ]
                  refine wpAnyH_take (i := 8) (oi := { dst := some 28, op := Go.Op.extract (Go.Operand.tmp 20) 1, type := 3, pos := "l15_stack.go:84", after := #[{ on := 6, ground := Go.Ground.data }, { on := 11, ground := Go.Ground.gcOnly Go.Departure.lateStores }], guard := none }) (v := ?_) rfl (by kernel_rfl) (by kernel_rfl) (by kernel_rfl) (fun _ _ _ h => h) (Or.inl ⟨by rfl, ?_⟩) (by assumption) ?_
                  rotate_left
                  · (intro w hSw; (try dsimp only at hSw); go_simp; try with_reducible rfl)
                  try simp only [Act.put, List.setIfInBounds_toArray, List.set_cons_zero, List.set_cons_succ]
                  refine wpAnyH_take (i := 9) (oi := { dst := some 29, op := Go.Op.extract (Go.Operand.tmp 20) 2, type := 4, pos := "l15_stack.go:84", after := #[{ on := 6, ground := Go.Ground.data }, { on := 12, ground := Go.Ground.gcOnly Go.Departure.lateStores }], guard := none }) (v := ?_) rfl (by kernel_rfl) (by kernel_rfl) (by kernel_rfl) (fun _ _ _ h => h) (Or.inl ⟨by rfl, ?_⟩) (by assumption) ?_
                  rotate_left
                  · (intro w hSw; (try dsimp only at hSw); go_simp; try with_reducible rfl)
                  try simp only [Act.put, List.setIfInBounds_toArray, List.set_cons_zero, List.set_cons_succ]
                  refine wpAnyH_ready (rs := [11]) (by kernel_rfl) (by simp) ?_
                  refine AllReadyH.cons (o := { dst := none, op := Go.Op.store 27 (Go.Operand.tmp 7) (Go.Operand.tmp 27), type := 0, pos := "l15_stack.go:84", after := #[{ on := 10, ground := Go.Ground.data }, { on := 7, ground := Go.Ground.data }, { on := 5, ground := Go.Ground.chain }, { on := 0, ground := Go.Ground.phase }, { on := 1, ground := Go.Ground.phase }, { on := 2, ground := Go.Ground.phase }, { on := 3, ground := Go.Ground.phase }, { on := 4, ground := Go.Ground.phase }, { on := 5, ground := Go.Ground.phase }, { on := 6, ground := Go.Ground.phase }, { on := 7, ground := Go.Ground.phase }, { on := 8, ground := Go.Ground.textOnly Go.Departure.lateStores }, { on := 9, ground := Go.Ground.textOnly Go.Departure.lateStores }, { on := 10, ground := Go.Ground.phase }], guard := none }) rfl (fun K11 hK11 => ?_) AllReadyH.nil
                  (obtain ⟨⟨y0, y1, y2⟩, f0, f1, f2⟩ := row3_cells (LM.zero hL.out); go_simp)
                  refine hK11.out _ _ ?_ (fun hHeld5 => ?_)
                  · (try dsimp only); (first | with_reducible exact BX.cells (BX.call Hq2.out (LM.done (x := x) (y := y) (z := z) hL.out).2) | with_reducible exact BX.cells (BX.call Hq2.out (LM.made (x := x) (y := y) (z := z) hLo.out rfl).2))
                  clear hK11 K11 hHeld4
                  try simp only [Act.put]
                  refine wpAnyH_take (i := 12) (oi := { dst := some 8, op := Go.Op.assign (Go.Operand.tmp 28), type := 3, pos := "l15_stack.go:84", after := #[{ on := 8, ground := Go.Ground.data }, { on := 11, ground := Go.Ground.chain }, { on := 0, ground := Go.Ground.phase }, { on := 1, ground := Go.Ground.phase }, { on := 2, ground := Go.Ground.phase }, { on := 3, ground := Go.Ground.phase }, { on := 4, ground := Go.Ground.phase }, { on := 5, ground := Go.Ground.phase }, { on := 6, ground := Go.Ground.phase }, { on := 7, ground := Go.Ground.phase }, { on := 8, ground := Go.Ground.phase }, { on := 9, ground := Go.Ground.textOnly Go.Departure.lateStores }, { on := 10, ground := Go.Ground.phase }, { on := 11, ground := Go.Ground.phase }], guard := none }) (v := ?_) rfl (by kernel_rfl) (by kernel_rfl) (by kernel_rfl) (fun _ _ _ h => h) (Or.inl ⟨by rfl, ?_⟩) (by assumption) ?_
                  rotate_left
                  · (intro w hSw; (try dsimp only at hSw); go_simp; try with_reducible rfl)
                  try simp only [Act.put, List.setIfInBounds_toArray, List.set_cons_zero, List.set_cons_succ]
                  refine wpAnyH_take (i := 13) (oi := { dst := some 9, op := Go.Op.assign (Go.Operand.tmp 29), type := 4, pos := "l15_stack.go:84", after := #[{ on := 9, ground := Go.Ground.data }, { on := 12, ground := Go.Ground.chain }, { on := 0, ground := Go.Ground.phase }, { on := 1, ground := Go.Ground.phase }, { on := 2, ground := Go.Ground.phase }, { on := 3, ground := Go.Ground.phase }, { on := 4, ground := Go.Ground.phase }, { on := 5, ground := Go.Ground.phase }, { on := 6, ground := Go.Ground.phase }, { on := 7, ground := Go.Ground.phase }, { on := 8, ground := Go.Ground.phase }, { on := 9, ground := Go.Ground.phase }, { on := 10, ground := Go.Ground.phase }, { on := 11, ground := Go.Ground.phase }, { on := 12, ground := Go.Ground.phase }], guard := none }) (v := ?_) rfl (by kernel_rfl) (by kernel_rfl) (by kernel_rfl) (fun _ _ _ h => h) (Or.inl ⟨by rfl, ?_⟩) (by assumption) ?_
                  rotate_left
                  · (intro w hSw; (try dsimp only at hSw); go_simp; try with_reducible rfl)
                  try simp only [Act.put, List.setIfInBounds_toArray, List.set_cons_zero, List.set_cons_succ]
                  refine wpAnyH_done (by kernel_rfl) ?_ _
                  (go_wp2_with fail; go_meet; first | (with_reducible exact ⟨_, z, rfl, rfl, rfl, hz', (LM.done hL.out).1, BX.call Hq2.out (LM.done hL.out).2⟩) | (with_reducible exact ⟨_, z, rfl, rfl, rfl, hz', (LM.made hLo.out (by simp)).1, BX.call Hq2.out (LM.made hLo.out rfl).2⟩) | (trace_state; sorry))
          · as_aux_lemma =>
              (go_simp; have hLo := hL; have q := LM.pop hL.out; (try simp only [World.size_alloc, World.size_drew] at q); replace hL := Lib.hid q; clear q)
              refine hK10.out _ _ ?_ (fun hHeld1 => ?_)
              · (try dsimp only); (first | go_keep | exact BX.cells (BX.call Hq2.out hL.out.1))
              clear hK10 K10 hHeld0
              try simp only [Act.put, List.setIfInBounds_toArray, List.set_cons_zero, List.set_cons_succ]
              refine wpAnyH_ready (rs := [2]) (by kernel_rfl) (by simp) ?_
              refine AllReadyH.cons (o := { dst := some 23, op := Go.Op.buildSlice 32 0 #[], type := 32, pos := "l15_stack.go:84", after := #[], guard := none }) rfl (fun K2 hK2 => ?_) AllReadyH.nil
              (go_simp; have q := LM.slice hL.out; (try simp only [World.size_alloc, World.size_drew] at q); replace hL := Lib.hid q; clear q)
              refine hK2.out _ _ ?_ (fun hHeld2 => ?_)
              · (try dsimp only); (first | go_keep | exact BX.cells (BX.call Hq2.out hL.out.1))
              clear hK2 K2 hHeld1
              try simp only [Act.put, List.setIfInBounds_toArray, List.set_cons_zero, List.set_cons_succ]
              refine wpAnyH_ready (rs := [4]) (by kernel_rfl) (by simp) ?_
              refine AllReadyH.cons (o := { dst := some 25, op := Go.Op.call { callee := Go.Callee.builtin Go.Builtin.append, args := #[Go.Operand.tmp 23, Go.Operand.tmp 24], argTypes := #[32, 32] }, type := 32, pos := "l15_stack.go:84", after := #[{ on := 2, ground := Go.Ground.data }, { on := 3, ground := Go.Ground.data }], guard := none }) rfl (fun K4 hK4 => ?_) AllReadyH.nil
              refine step_app rfl (.tmp 23) (.tmp 24) 32 rfl w2.heap.size 3 i0 _ 1 8 Try.underlying32 hi0 hz0 hz1 hz2 rfl (by decide) _ 0 [] rfl (LM.own hL.out) a2 n2 c2 (icells l) rfl (by rw [icells_length, Hn2.out]; simp) (HCs.out _ (Hq2.out.call hL.out.1).1) (oneCellI _) n2 (icells l) (Nat.zero_add n2) rfl (by unfold maxLen; omega) (by omega) hL.out.1.size ?_; intro A3 c3 w3 o3 g3; have q := LM.app (l' := l) hL.out (by rw [Hn2.out]; exact o3) g3; replace hL := Lib.hid q; clear q o3 g3
              refine hK4.out _ _ ?_ (fun hHeld3 => ?_)
              · (try dsimp only); (first | go_keep | exact BX.cells (BX.call Hq2.out hL.out.1))
              clear hK4 K4 hHeld2
              try simp only [Act.put, List.setIfInBounds_toArray, List.set_cons_zero, List.set_cons_succ]
              refine wpAnyH_ready (rs := [5]) (by kernel_rfl) (by simp) ?_
              refine AllReadyH.cons (o := { dst := some 26, op := Go.Op.call { callee := Go.Callee.value (Go.Operand.func 74), args := #[Go.Operand.tmp 21, Go.Operand.tmp 22, Go.Operand.tmp 25], argTypes := #[25, 37, 32] }, type := 89, pos := "l15_stack.go:84", after := #[{ on := 0, ground := Go.Ground.data }, { on := 1, ground := Go.Ground.data }, { on := 4, ground := Go.Ground.data }, { on := 4, ground := Go.Ground.chain }], guard := none }) rfl (fun K5 hK5 => ?_) AllReadyH.nil
              go_simp
              (refine (HPop.out _ w2.heap.size _ hL.out.1.size (MxIn.more (Hq2.out.call hL.out.1).2.2.1 hws) (LM.own hL.out)).mono ?_; rintro e v1 ⟨z, hz', rfl, hb, hg⟩; have q := LM.run hL.out hg; replace hL := Lib.hid q; obtain ⟨d0, d1⟩ := BX.cells (BX.call Hq2.out q.1); clear q hb hg)
              go_wp2_with fail
              refine hK5.out _ _ ?_ (fun hHeld4 => ?_)
              · (try dsimp only); (first | go_keep | exact BX.cells (BX.call Hq2.out hL.out.1))
              clear hK5 K5 hHeld3
              try simp only [Act.put, List.setIfInBounds_toArray, List.set_cons_zero, List.set_cons_succ]
              refine wpAnyH_take (i := 6) (oi := { dst := some 20, op := Go.Op.move (Go.Operand.tmp 26), type := 89, pos := "l15_stack.go:84", after := #[{ on := 5, ground := Go.Ground.data }], guard := none }) (v := ?_) rfl (by kernel_rfl) (by kernel_rfl) (by kernel_rfl) (fun _ _ _ h => h) (Or.inl ⟨by rfl, ?_⟩) (by assumption) ?_
              rotate_left
              · (intro w hSw; (try dsimp only at hSw); go_simp; try with_reducible rfl)
              try simp only [Act.put, List.setIfInBounds_toArray, List.set_cons_zero, List.set_cons_succ]
              refine wpAnyH_take (i := 7) (oi := { dst := some 27, op := Go.Op.extract (Go.Operand.tmp 20) 0, type := 27, pos := "l15_stack.go:84", after := #[{ on := 6, ground := Go.Ground.data }], guard := none }) (v := ?_) rfl (by kernel_rfl) (by kernel_rfl) (by kernel_rfl) (fun _ _ _ h => h) (Or.inl ⟨by rfl, ?_⟩) (by assumption) ?_
              rotate_left
              · (intro w hSw; (try dsimp only at hSw); go_simp; try with_reducible rfl)
              try simp only [Act.put, List.setIfInBounds_toArray, List.set_cons_zero, List.set_cons_succ]
              refine wpAnyH_take (i := 8) (oi := { dst := some 28, op := Go.Op.extract (Go.Operand.tmp 20) 1, type := 3, pos := "l15_stack.go:84", after := #[{ on := 6, ground := Go.Ground.data }, { on := 11, ground := Go.Ground.gcOnly Go.Departure.lateStores }], guard := none }) (v := ?_) rfl (by kernel_rfl) (by kernel_rfl) (by kernel_rfl) (fun _ _ _ h => h) (Or.inl ⟨by rfl, ?_⟩) (by assumption) ?_
              rotate_left
              · (intro w hSw; (try dsimp only at hSw); go_simp; try with_reducible rfl)
              try simp only [Act.put, List.setIfInBounds_toArray, List.set_cons_zero, List.set_cons_succ]
              refine wpAnyH_take (i := 9) (oi := { dst := some 29, op := Go.Op.extract (Go.Operand.tmp 20) 2, type := 4, pos := "l15_stack.go:84", after := #[{ on := 6, ground := Go.Ground.data }, { on := 12, ground := Go.Ground.gcOnly Go.Departure.lateStores }], guard := none }) (v := ?_) rfl (by kernel_rfl) (by kernel_rfl) (by kernel_rfl) (fun _ _ _ h => h) (Or.inl ⟨by rfl, ?_⟩) (by assumption) ?_
              rotate_left
              · (intro w hSw; (try dsimp only at hSw); go_simp; try with_reducible rfl)
              try simp only [Act.put, List.setIfInBounds_toArray, List.set_cons_zero, List.set_cons_succ]
              refine wpAnyH_ready (rs := [11]) (by kernel_rfl) (by simp) ?_
              refine AllReadyH.cons (o := { dst := none, op := Go.Op.store 27 (Go.Operand.tmp 7) (Go.Operand.tmp 27), type := 0, pos := "l15_stack.go:84", after := #[{ on := 10, ground := Go.Ground.data }, { on := 7, ground := Go.Ground.data }, { on := 5, ground := Go.Ground.chain }, { on := 0, ground := Go.Ground.phase }, { on := 1, ground := Go.Ground.phase }, { on := 2, ground := Go.Ground.phase }, { on := 3, ground := Go.Ground.phase }, { on := 4, ground := Go.Ground.phase }, { on := 5, ground := Go.Ground.phase }, { on := 6, ground := Go.Ground.phase }, { on := 7, ground := Go.Ground.phase }, { on := 8, ground := Go.Ground.textOnly Go.Departure.lateStores }, { on := 9, ground := Go.Ground.textOnly Go.Departure.lateStores }, { on := 10, ground := Go.Ground.phase }], guard := none }) rfl (fun K11 hK11 => ?_) AllReadyH.nil
              (obtain ⟨⟨y0, y1, y2⟩, f0, f1, f2⟩ := row3_cells (LM.zero hL.out); go_simp)
              refine hK11.out _ _ ?_ (fun hHeld5 => ?_)
              · (try dsimp only); (first | with_reducible exact BX.cells (BX.call Hq2.out (LM.done (x := x) (y := y) (z := z) hL.out).2) | with_reducible exact BX.cells (BX.call Hq2.out (LM.made (x := x) (y := y) (z := z) hLo.out rfl).2))
              clear hK11 K11 hHeld4
              try simp only [Act.put]
              refine wpAnyH_take (i := 12) (oi := { dst := some 8, op := Go.Op.assign (Go.Operand.tmp 28), type := 3, pos := "l15_stack.go:84", after := #[{ on := 8, ground := Go.Ground.data }, { on := 11, ground := Go.Ground.chain }, { on := 0, ground := Go.Ground.phase }, { on := 1, ground := Go.Ground.phase }, { on := 2, ground := Go.Ground.phase }, { on := 3, ground := Go.Ground.phase }, { on := 4, ground := Go.Ground.phase }, { on := 5, ground := Go.Ground.phase }, { on := 6, ground := Go.Ground.phase }, { on := 7, ground := Go.Ground.phase }, { on := 8, ground := Go.Ground.phase }, { on := 9, ground := Go.Ground.textOnly Go.Departure.lateStores }, { on := 10, ground := Go.Ground.phase }, { on := 11, ground := Go.Ground.phase }], guard := none }) (v := ?_) rfl (by kernel_rfl) (by kernel_rfl) (by kernel_rfl) (fun _ _ _ h => h) (Or.inl ⟨by rfl, ?_⟩) (by assumption) ?_
              rotate_left
              · (intro w hSw; (try dsimp only at hSw); go_simp; try with_reducible rfl)
              try simp only [Act.put, List.setIfInBounds_toArray, List.set_cons_zero, List.set_cons_succ]
              refine wpAnyH_take (i := 13) (oi := { dst := some 9, op := Go.Op.assign (Go.Operand.tmp 29), type := 4, pos := "l15_stack.go:84", after := #[{ on := 9, ground := Go.Ground.data }, { on := 12, ground := Go.Ground.chain }, { on := 0, ground := Go.Ground.phase }, { on := 1, ground := Go.Ground.phase }, { on := 2, ground := Go.Ground.phase }, { on := 3, ground := Go.Ground.phase }, { on := 4, ground := Go.Ground.phase }, { on := 5, ground := Go.Ground.phase }, { on := 6, ground := Go.Ground.phase }, { on := 7, ground := Go.Ground.phase }, { on := 8, ground := Go.Ground.phase }, { on := 9, ground := Go.Ground.phase }, { on := 10, ground := Go.Ground.phase }, { on := 11, ground := Go.Ground.phase }, { on := 12, ground := Go.Ground.phase }], guard := none }) (v := ?_) rfl (by kernel_rfl) (by kernel_rfl) (by kernel_rfl) (fun _ _ _ h => h) (Or.inl ⟨by rfl, ?_⟩) (by assumption) ?_
              rotate_left
              · (intro w hSw; (try dsimp only at hSw); go_simp; try with_reducible rfl)
              try simp only [Act.put, List.setIfInBounds_toArray, List.set_cons_zero, List.set_cons_succ]
              refine wpAnyH_done (by kernel_rfl) ?_ _
              (go_wp2_with fail; go_meet; first | (with_reducible exact ⟨_, z, rfl, rfl, rfl, hz', (LM.done hL.out).1, BX.call Hq2.out (LM.done hL.out).2⟩) | (with_reducible exact ⟨_, z, rfl, rfl, rfl, hz', (LM.made hLo.out (by simp)).1, BX.call Hq2.out (LM.made hLo.out rfl).2⟩) | (trace_state; sorry))
      case rest =>
      obtain ⟨P, z, rfl, rfl, rfl, hz', hrow, hbq⟩ := hcut
      clear c0 c1
      obtain ⟨⟨m0, m1, m2⟩, -⟩ := row3_cells hrow
      have Hbq := Lib.hid hbq
      have Hz := Lib.hid hz'
      clear hrow hbq hz'
      cases rb with
      | true =>
        have HK := Lib.hid (HK1.out rfl)
        obtain rfl := Hz.out rfl
        clear HK1 HK2 Hz
        go_wp2_with fail
        go_ret
        exact HK.out _ Hbq.out.1
      | false =>
        have HK := Lib.hid (HK2.out rfl)
        clear HK1 HK2 Hz
        go_wp2_with fail
        go_ret
        exact HK.out _ Hbq.out.1
  · rw [Bool.not_eq_true] at hA
    rw [hA] at HAo
    have HK := Lib.hid (HK0.out (po_no (.inl hA)))
    clear hi hi2 hn hn2 hl hA HK0
    generalize auZ x y ls l = r1 at *
    go_enter Try.func37, Try.ntmps37
    have Hq0 := Lib.hid (HQ0.out 25)
    clear HQ0
    go_wp2_with fail
    refine (HAo.out _ (Hq0.out.2.2.1.more Hq0.out.1.size)).mono ?_
    rintro e w1 ⟨rfl, hb⟩
    have Hq1 := Lib.hid (Hq0.out.call hb)
    clear hb Hq0 HAo
    go_wp2_with fail
    go_ret
    exact HK.out _ Hq1.out.1
end Go.Proofs.Ytcoikcnijaniaaa.popM
