/- The contracts of the program's functions on walks: when a walker is back, whether one comes to a cell. -/
import Derived.Test.YtkknnikhpembiaaHandI2
namespace Go.Proofs.Ytkknnikhpembiaa.handI
open Go.ChangeShapes Go.WideShapes Go.ChangeAt Go.RowKit
open draw gridP gridC gridE bitP mazeP mazeC mazeM mazeR mazeI intsP reachP reachM reachN reachD intA listK forest handP handQ listW handM
set_option linter.unusedVariables false

/-- A list of walkers that lies in memory, told by both its numbers. -/
def WlT (A : Option Addr) (l : List (Int × Int)) (X : World) : Prop := ∀ i s, l[i]? = some s → ∃ g, A = some ⟨g, 0, none⟩ ∧ g < X.heap.size ∧ X.cell? ⟨g, i * 2, none⟩ = some (.int .i64 s.1) ∧ X.cell? ⟨g, i * 2 + 1, none⟩ = some (.int .i64 s.2)
theorem WlT.call {A : Option Addr} {l : List (Int × Int)} {X X' : World} (h : WlT A l X) (hb : Below X.heap.size X X') : WlT A l X' := fun i s hs => by
  obtain ⟨g, e, hg, hc, hc2⟩ := h i s hs
  exact ⟨g, e, Nat.lt_of_lt_of_le hg hb.size, (hb.cell (p := ⟨g, i * 2, none⟩) hg).trans hc, (hb.cell (p := ⟨g, i * 2 + 1, none⟩) hg).trans hc2⟩
theorem wlt_own {X : World} {base n c : Nat} {A : Option Addr} {l : List (Int × Int)} (hn : n = l.length) (h : X.ownsRow base 29 2 (.slice A n c) n (wcl l)) : WlT A l X := fun i s hs => by
  have hi := (List.getElem?_eq_some_iff.1 hs).1
  rcases h.2 with ⟨-, h2⟩ | ⟨g, cap, cur, e, hg, hh, -⟩
  · omega
  · injection e with e1 e2 e3
    subst e1
    exact ⟨g, rfl, (Array.getElem?_eq_some_iff.1 hh).1, (wl_cell h hs).1, (wl_cell h hs).2⟩
/-- A walker that was just put into a block of its own. -/
theorem below_wk (X : World) (a b : Int) (T : TypeId) : Below X.heap.size X (((X.alloc (.cells #[.int .i64 0, .int .i64 0] T)).setCell ⟨X.heap.size, 0, none⟩ (.int .i64 a)).setCell ⟨X.heap.size, 1, none⟩ (.int .i64 b)) :=
  ((below_box X _).setCell (by simp) _).setCell (by simp) _

theorem hc_list (x y z c f : Int) :
    (∀ (k : Nat) (s : Int × Int), 1 ≤ k → (hwI x y z c f 200)[k]? = some s → s.1 = c → s.2 = f → (∀ (j : Nat) (t : Int × Int), 1 ≤ j → j < k → (hwI x y z c f 200)[j]? = some t → ¬ (t.1 = c ∧ t.2 = f)) → (k : Int) = hcZ x y z c f) ∧
    ((∀ (j : Nat) (t : Int × Int), 1 ≤ j → j < (hwI x y z c f 200).length → (hwI x y z c f 200)[j]? = some t → ¬ (t.1 = c ∧ t.2 = f)) → 0 = hcZ x y z c f) := by
  cases hw : waB x y z c f with
  | false =>
    rw [hw_no (fun h => by rw [hw] at h; cases h.1)]
    refine ⟨fun k s _ h => by simp at h, fun _ => ?_⟩
    unfold hcZ; rw [hw]; rfl
  | true =>
    rw [hw_yes hw (by omega) (by omega)]
    obtain ⟨z1, z2⟩ := hk_zero hw
    have hp := fun {j} (h : j ≤ 200) => hp_at x y z c f h
    have hl := hp_len x y z c f 200
    rw [show (200 : Int).toNat = 200 from rfl]
    have key : ∀ j, hkN x y z c f j = hkN x y z c f 0 ↔ ((iwP (hkN x y z c f j)).1 = c ∧ (iwP (hkN x y z c f j)).2 = f) := fun j => by
      have y1 := z1
      have y2 := z2
      generalize hkN x y z c f 0 = s0 at y1 y2 ⊢
      generalize hkN x y z c f j = sj
      unfold iwP
      constructor
      · intro h; rw [h]; exact ⟨y1.symm, y2.symm⟩
      · rintro ⟨h1, h2⟩
        simp only at h1 h2
        exact Prod.ext (by omega) (by omega)
    generalize hpI x y z c f 200 = l at *
    refine ⟨fun k s hk hs e1 e2 hno => ?_, fun hno => ?_⟩
    · have hk2 := (List.getElem?_eq_some_iff.1 hs).1
      rw [hp (by omega)] at hs
      injection hs with hs
      obtain ⟨k, rfl⟩ : ∃ k', k = k' + 1 := ⟨k - 1, by omega⟩
      rw [hc_is hw (k := k) (by omega) ((key (k + 1)).2 ⟨by rw [hs]; exact e1, by rw [hs]; exact e2⟩) fun j hj h => hno (j + 1) _ (by omega) (by omega) (hp (by omega)) ((key (j + 1)).1 h)]
      omega
    · rw [hc_none fun j hj h => hno (j + 1) _ (by omega) (by omega) (hp (by omega)) ((key (j + 1)).1 h)]

set_option maxRecDepth 100000 in
theorem handCycle_any (x y z c f : Int) (W : World) :
    Calls Try.prog 14 #[.agg #[.int .i64 x, .int .i64 y, .int .i64 z], .agg #[.int .i64 c, .int .i64 f]] W (Nm (hcZ x y z c f) W) := by
  have HH := Lib.hid (fun X => handWalk_any x y z c f 200 X)
  have HW := Lib.hid (fun T1 T2 => box2_new x y z c f W T1 T2)
  have HK := @Lib.hid _ (fun v w' h => @nm_mk v (hcZ x y z c f) W w' h)
  have HIs := Lib.hid (hc_list x y z c f).1
  have HNo := Lib.hid (hc_list x y z c f).2
  have hl := hw_len x y z c f 200
  generalize hcZ x y z c f = L at *
  generalize hwI x y z c f 200 = l at *
  go_enter Try.func14, Try.ntmps14
  go_wp2_with fail
  obtain ⟨hx0, hr0, hb0⟩ := HW.out 27 29
  have hb0 := Lib.hid hb0
  have hr0 := Lib.hid hr0
  obtain ⟨⟨m0, m1, m2⟩, -⟩ := hx0
  obtain ⟨⟨r0, r1⟩, -⟩ := row2_cells hr0.out
  clear HW
  go_wp2_with fail
  refine (HH.out _).mono ?_
  rintro e w1 ⟨v, rfl, ho, hb⟩
  have hb1 := Lib.hid (below_call hb0.out hb)
  have hr1 := Lib.hid (hr0.out.call hb)
  obtain ⟨A1, c1, rfl⟩ := intsP.own_form ho
  have hwl1 := Lib.hid (wlt_own rfl ho)
  clear hb ho hb0 hr0 m0 m1 m2 r0 r1
  go_wp2_with fail
  go_loopw [11] (fun u11 wr => ∃ k : Nat, k ≤ l.length ∧ u11 = .int .i64 k ∧ (∀ j t, 1 ≤ j → j < k → l[j]? = some t → ¬ (t.1 = c ∧ t.2 = f)) ∧ Below W.heap.size W wr ∧ Row2 (W.heap.size + 1) c f wr ∧ WlT A1 l wr) (fun u11 _ => l.length - (intOf u11).toNat)
  case atStart => exact ⟨0, Nat.zero_le _, rfl, fun j t h1 h2 => absurd h2 (by omega), hb1.out, hr1.out, hwl1.out⟩
  case round =>
    clear hb1 hr1 hwl1
    obtain ⟨k, hk, rfl, hno, hb0, hr0, hwl0⟩ := hrel
    have hb1 := Lib.hid hb0
    have hr1 := Lib.hid hr0
    have hwl1 := Lib.hid hwl0
    have HIn := Lib.hid hno
    clear hno hb0 hr0 hwl0
    by_cases hkl : k < l.length
    · obtain ⟨s, hs⟩ : ∃ s, l[k]? = some s := ⟨l[k], List.getElem?_eq_getElem hkl⟩
      obtain ⟨gb, rfl, hg, hc, hc2⟩ := hwl1.out k s hs
      have hk0 : (0 : Int) ≤ (k : Int) := Int.natCast_nonneg _
      have hk1 : (k : Int) < (l.length : Int) := by omega
      have hd : decide ((k : Int) < (l.length : Int)) = true := decide_eq_true hk1
      have hbw := Lib.hid (fun a b T => below_wk wr a b T)
      obtain ⟨⟨r0, r1⟩, -⟩ := row2_cells hr1.out
      have hrlt := row2_lt hr1.out
      have HS1 := Lib.hid (fun h1 h2 h3 => HIs.out k s h1 hs h2 h3 HIn.out)
      have HN1 : Hid (¬ (1 ≤ k ∧ s.1 = c ∧ s.2 = f) → ∀ j t, 1 ≤ j → j < k + 1 → l[j]? = some t → ¬ (t.1 = c ∧ t.2 = f)) := Lib.hid fun hn j t h1 h2 h3 => by
        rcases Nat.lt_or_ge j k with h | h
        · exact HIn.out j t h1 h h3
        · obtain rfl : j = k := by omega
          rw [hs] at h3; cases h3
          exact fun h => hn ⟨h1, h⟩
      clear hs
      obtain ⟨s1, s2⟩ := s
      simp only at hc hc2 HS1 HN1
      by_cases hk2 : 1 ≤ k
      · have hdk : decide (0 < (k : Int)) = true := decide_eq_true (by omega)
        go_wp2_with fail
        all_goals first
          | (go_ret; exact HK.out _ _ (HS1.out hk2 (by assumption) (by assumption)) (below_call hb1.out (below_box _ _)))
          | (go_roundw
             case rel => exact ⟨k + 1, by omega, by go_num, HN1.out (fun h => by rcases h with ⟨_, h1, h2⟩; first | exact absurd h1 (by assumption) | exact absurd h2 (by assumption)), below_call hb1.out (below_box _ _), hr1.out.call (below_box _ _), hwl1.out.call (below_box _ _)⟩
             case measure => simp [intOf]; omega)
      · obtain rfl : k = 0 := by omega
        go_wp2_with fail
        go_roundw
        case rel => exact ⟨1, by omega, by go_num, HN1.out (fun h => absurd h.1 (by omega)), below_call hb1.out (below_box _ _), hr1.out.call (below_box _ _), hwl1.out.call (below_box _ _)⟩
        case measure => simp [intOf]; omega
    · obtain rfl : k = l.length := by omega
      have hd : decide ((l.length : Int) < (l.length : Int)) = false := by simp
      have HL := Lib.hid (HNo.out HIn.out)
      clear HIn HIs HNo
      go_wp2_with fail
      go_ret
      exact HK.out _ _ HL.out hb1.out

/-! ### whether one of a list is so -/
/-- A function answers whether a walker is so. -/
def LikesW (g : Nat) (cb : Array Value) (W : World) (p : Int × Int → Bool) : Prop :=
  ∀ (s : Int × Int) (X : World), Below W.heap.size W X → Calls Try.prog g (#[.agg #[.int .i64 s.1, .int .i64 s.2]] ++ cb) X (Bl (p s) X)
theorem ifw_mk {b : Bool} {v : Int} {W w' : World} (h : decide (0 ≤ v) = b) (h1 : -1 ≤ v) (h2 : v ≤ 1048576) (hb : Below W.heap.size W w') :
    ∃ u : Int, Ending.returned (.int .i64 v) = .returned (.int .i64 u) ∧ decide (0 ≤ u) = b ∧ (-1 ≤ u ∧ u ≤ 1048576) ∧ Below W.heap.size W w' := ⟨v, rfl, h, ⟨h1, h2⟩, hb⟩
set_option maxRecDepth 100000 in
theorem indexFuncW_any (g : Nat) (cb : Array Value) (p : Int × Int → Bool) (A : Option Addr) (n c : Nat) (l : List (Int × Int)) (W : World) (hE : ∀ args w, (callFunc g args).run Try.prog w = .ok (.enter g args) w) (hg : LikesW g cb W p) (hn : l.length = n) (hm : n ≤ 1048576) (hi : WlT A l W) :
    Calls Try.prog 57 #[.slice A n c, .func (.func g) #[] cb] W fun e w' => ∃ u : Int, e = .returned (.int .i64 u) ∧ decide (0 ≤ u) = l.any p ∧ (-1 ≤ u ∧ u ≤ 1048576) ∧ Below W.heap.size W w' := by
  have HG := Lib.hid hg
  have HI := Lib.hid hi
  have Hn := Lib.hid hn
  have HR := Lib.hid (Below.refl W.heap.size W)
  have HK := @Lib.hid _ (fun v w' => @ifw_mk (l.any p) v W w')
  clear hg hi hn
  go_enter Try.func57, Try.ntmps57
  go_wp2_with fail
  go_loopw [8] (fun u8 wr => ∃ k : Nat, k ≤ n ∧ u8 = .int .i64 k ∧ (∀ j d, j < k → l[j]? = some d → p d = false) ∧ Below W.heap.size W wr) (fun u8 _ => n - (intOf u8).toNat)
  case atStart => exact ⟨0, Nat.zero_le _, rfl, fun j d hj => absurd hj (by omega), HR.out⟩
  case round =>
    obtain ⟨k, hk, rfl, hin, hb0⟩ := hrel
    have HIn := Lib.hid hin
    have hbl := Lib.hid hb0
    clear hin hb0
    by_cases hkn : k < n
    · obtain ⟨v, hv, hmem⟩ : ∃ v, l[k]? = some v ∧ v ∈ l := by
        have hkl : k < l.length := by have := Hn.out; omega
        exact ⟨l[k], List.getElem?_eq_getElem hkl, List.getElem_mem hkl⟩
      obtain ⟨gb, rfl, hgl, hcell, hcell2⟩ := (HI.out.call hbl.out) k v hv
      have hk0 : (0 : Int) ≤ (k : Int) := Int.natCast_nonneg _
      have hk1 : (k : Int) < (n : Int) := by omega
      have hd : decide ((k : Int) < (n : Int)) = true := by simp; omega
      have HG1 := Lib.hid (HG.out v wr hbl.out)
      go_wp2_with fail
      refine HG1.out.mono ?_
      rintro e w1 ⟨rfl, hb⟩
      have hbl1 := Lib.hid (below_call hbl.out hb)
      clear hb HG1
      cases hp : p v with
      | true =>
        have HE : Hid (l.any p = true) := Lib.hid (List.any_eq_true.2 ⟨v, hmem, hp⟩)
        clear hv hmem
        go_wp2_with fail
        go_ret
        exact HK.out _ _ (by rw [HE.out]; simp) (by omega) (by omega) hbl1.out
      | false =>
        have HN : Hid (∀ j d, j < k + 1 → l[j]? = some d → p d = false) := fun j d hj hl => by
          rcases Nat.lt_or_ge j k with h | h
          · exact HIn.out j d h hl
          · obtain rfl : j = k := by omega
            rw [hv] at hl; cases hl; exact hp
        clear hv hmem
        go_wp2_with fail
        go_roundw
        case rel => exact ⟨k + 1, by omega, by go_num, HN.out, hbl1.out⟩
        case measure => simp [intOf]; omega
    · obtain rfl : k = n := by omega
      have hd : decide ((k : Int) < (k : Int)) = false := by simp
      have HE : Hid (l.any p = false) := Lib.hid (by
        rw [← Bool.not_eq_true, List.any_eq_true]
        rintro ⟨v, hv, hp⟩
        obtain ⟨j, hj⟩ := List.getElem?_of_mem hv
        have := (List.getElem?_eq_some_iff.1 hj).1
        rw [HIn.out j v (by have := Hn.out; omega) hj] at hp; cases hp)
      go_wp2_with fail
      go_ret
      exact HK.out _ _ (by rw [HE.out]; simp) (by omega) (by omega) hbl.out
theorem containsFuncW_any (g : Nat) (cb : Array Value) (p : Int × Int → Bool) (A : Option Addr) (n c : Nat) (l : List (Int × Int)) (W : World) (hE : ∀ args w, (callFunc g args).run Try.prog w = .ok (.enter g args) w) (hg : LikesW g cb W p) (hn : l.length = n) (hm : n ≤ 1048576) (hi : WlT A l W) :
    Calls Try.prog 42 #[.slice A n c, .func (.func g) #[] cb] W (Bl (l.any p) W) := by
  have HC := Lib.hid (indexFuncW_any g cb p A n c l W hE hg hn hm hi)
  generalize l.any p = b at *
  clear hg hi hn
  go_enter Try.func42, Try.ntmps42
  go_wp2_with fail
  refine HC.out.mono ?_
  rintro e w1 ⟨u, rfl, hu, hu2, hb⟩
  have HK := Lib.hid (bl_mk (rfl : b = b) hb)
  clear hb HC
  go_wp2_with fail
  go_ret
  exact HK.out

theorem isThere_any (s : Int × Int) (u : Int) (b : Nat) (X : World) (hb : b < X.heap.size) (hc : X.cell? ⟨b, 0, none⟩ = some (.int .i64 u)) :
    Calls Try.prog 41 #[.agg #[.int .i64 s.1, .int .i64 s.2], .pointer (some ⟨b, 0, none⟩)] X (Bl (s.1 == u) X) := by
  obtain ⟨s1, s2⟩ := s
  have HR := Lib.hid (row2_new s1 s2 X 29)
  have HC : (X.alloc (.cells #[.int .i64 s1, .int .i64 s2] 29)).cell? ⟨b, 0, none⟩ = some (.int .i64 u) := ((below_box X _).cell (p := ⟨b, 0, none⟩) hb).trans hc
  have HB := Lib.hid (below_box X (.cells #[.int .i64 s1, .int .i64 s2] 29))
  have HK := @Lib.hid _ (fun w' h => @bl_mk (s1 == u) (s1 == u) X w' rfl h)
  obtain ⟨⟨r0, r1⟩, -⟩ := row2_cells HR.out
  go_enter Try.func41, Try.ntmps41
  go_wp2_with fail
  go_ret
  exact HK.out _ HB.out
theorem box3_new (x y z c f g : Int) (W : World) (T1 T2 T3 : TypeId) : Below W.heap.size W (((W.alloc (.cells #[.int .i64 x, .int .i64 y, .int .i64 z] T1)).alloc (.cells #[.int .i64 c, .int .i64 f] T2)).alloc (.cells #[.int .i64 g] T3)) ∧
    (((W.alloc (.cells #[.int .i64 x, .int .i64 y, .int .i64 z] T1)).alloc (.cells #[.int .i64 c, .int .i64 f] T2)).alloc (.cells #[.int .i64 g] T3)).cell? ⟨W.heap.size + 1 + 1, 0, none⟩ = some (.int .i64 g) ∧
    W.heap.size + 1 + 1 < (((W.alloc (.cells #[.int .i64 x, .int .i64 y, .int .i64 z] T1)).alloc (.cells #[.int .i64 c, .int .i64 f] T2)).alloc (.cells #[.int .i64 g] T3)).heap.size := by
  obtain ⟨-, -, h⟩ := box2_new x y z c f W T1 T2
  refine ⟨below_call h (below_box _ _), ?_, by simp⟩
  have := heap_alloc_new ((W.alloc (.cells #[.int .i64 x, .int .i64 y, .int .i64 z] T1)).alloc (.cells #[.int .i64 c, .int .i64 f] T2)) (.cells #[.int .i64 g] T3)
  rw [World.size_alloc, World.size_alloc] at this
  exact cell_of_row _ _ 0 _ _ _ this

set_option maxRecDepth 100000 in
theorem handReaches_any (x y z c f g : Int) (W : World) :
    Calls Try.prog 16 #[.agg #[.int .i64 x, .int .i64 y, .int .i64 z], .agg #[.int .i64 c, .int .i64 f], .int .i64 g] W (Bl (hrB x y z c f g) W) := by
  have HH := Lib.hid (fun X => handWalk_any x y z c f 200 X)
  have HW := Lib.hid (fun T1 T2 => box2_new x y z c f W T1 T2)
  have HK := @Lib.hid _ (fun b w' h => @bl_mk b (hrB x y z c f g) W w' h)
  have hl := hw_len x y z c f 200
  have HE := Lib.hid (hr_any x y z c f g)
  generalize hrB x y z c f g = R at *
  generalize hwI x y z c f 200 = l at *
  have HB3 := Lib.hid (fun T1 T2 T3 => box3_new x y z c f g W T1 T2 T3)
  go_enter Try.func16, Try.ntmps16
  go_wp2_with fail
  refine (HH.out _).mono ?_
  rintro e w1 ⟨v, rfl, ho, hb⟩
  obtain ⟨h1, h2, h3⟩ := HB3.out 27 29 3
  have hbw := Lib.hid (below_call h1 hb)
  have hcell := (hb.cell (p := ⟨W.heap.size + 1 + 1, 0, none⟩) h3).trans h2
  have hlt := Nat.lt_of_lt_of_le h3 hb.size
  obtain ⟨A1, c1, rfl⟩ := intsP.own_form ho
  have HCF := Lib.hid (containsFuncW_any 41 #[.pointer (some ⟨W.heap.size + 1 + 1, 0, none⟩)] (fun s => s.1 == g) A1 l.length c1 l w1 Try.call41 (fun s X hX => isThere_any s g _ X (Nat.lt_of_lt_of_le hlt hX.size) ((hX.cell (p := ⟨W.heap.size + 1 + 1, 0, none⟩) hlt).trans hcell)) rfl (by omega) (wlt_own rfl ho))
  clear hb ho h1 h2 h3 hcell hlt HB3 HW
  have HE2 := Lib.hid HE.out.symm
  clear HE
  generalize (l.any fun s => s.1 == g) = b at *
  go_wp2_with fail
  refine HCF.out.mono ?_
  rintro e w2 ⟨rfl, hb⟩
  have hb2 := Lib.hid (below_call hbw.out hb)
  clear hb hbw
  go_wp2_with fail
  go_ret
  exact HK.out _ _ HE2.out hb2.out
end Go.Proofs.Ytkknnikhpembiaa.handI
