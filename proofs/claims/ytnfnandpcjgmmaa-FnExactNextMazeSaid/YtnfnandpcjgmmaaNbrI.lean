/- The contracts of the program's functions on numbered mazes. -/
import Derived.Test.YtnfnandpcjgmmaaNbrQ
import Derived.Test.YtnfnandpcjgmmaaPrgC
import Derived.Test.YtnfnandpcjgmmaaListK
namespace Go.Proofs.Ytnfnandpcjgmmaa.nbrI
open Go.ChangeShapes Go.WideShapes Go.ChangeAt Go.RowKit
open draw gridP gridC gridE bitP mazeP mazeQ mazeC mazeM mazeR mazeI intsP boolP reachP reachM reachN reachD intA listK forest deadP trcP cntQ cntF cntH nbrP nbrQ
set_option linter.unusedVariables false

/-! ### an append that is put beside: the elder slice stays as it was -/
theorem append_keeps {P : Program} (w : World) (t ty : TypeId) (base : Nat) (e : TypeId) (i : TypeInfo) (z : Value) (size bytes : Nat) (ht : P.underlying t = some (.slice e)) (hi : P.info? e = some i) (hz : i.zero = some z)
    (hsize : i.size = size) (hby : i.bytes = bytes) (hzs : z.cells.size = size) (hsz : 0 < size)
    (v : Value) (n : Nat) (xs : List Value) (hown : w.ownsRow base e size v n xs)
    (ad : Addr) (m c : Nat) (news : List Value) (hl : news.length = m * size) (hnews : ∀ j u, news[j]? = some u → w.cell? (ad.add j) = some u) (h1 : ∀ u ∈ news, u.oneCell' = true)
    (hm : 0 < m) (h63 : n + m ≤ maxLen) (hbytes : (n + m) * bytes ≤ 140737488355328) (hbase : base ≤ w.heap.size) :
    ∃ g cap w', (Builtin.append_ #[t, t] ty #[v, .slice (some ad) m c]).run P w = .ok (.slice (some ⟨g, 0, none⟩) (n + m) cap) w' ∧
      w'.ownsRow base e size (.slice (some ⟨g, 0, none⟩) (n + m) cap) (n + m) (xs ++ news) ∧ w.grownBy w' v.ownBlock ∧ w'.ownsRow base e size v n xs := by
  obtain ⟨g, cap, w', hr, h2, h3, -, -⟩ := run_append_lies (P := P) w t ty base e i z size bytes ht hi hz hsize hby hzs hsz v n xs hown ad m c news hl hnews h1 hm h63 hbytes hbase w.heap.size rfl
  refine ⟨g, cap, w', hr, h2, h3, hown.1, ?_⟩
  subst hsize hby
  have hsmall : n + m ≤ 9223372036854775807 := by simp only [maxLen] at h63; omega
  rcases hown.2 with hv | ⟨q, capq, cur, rfl, hbq, hq, hnc, hcm, hcs, htake⟩
  · exact .inl hv
  · refine .inr ⟨q, capq, ?_⟩
    by_cases hroom : n + m ≤ capq
    · have hfit : n * i.size + news.length ≤ cur.size := by rw [hl, hcs, ← Nat.add_mul]; exact Nat.mul_le_mul_right _ hroom
      have hr2 := run_append_room (P := P) w t ty e i ht hi q n capq cur hq ad m c news hl hnews h1 hroom hfit
      rw [hr] at hr2
      injection hr2 with _ hw
      subst hw
      refine ⟨_, rfl, hbq, setRow_heap w q cur _ e _ hq, hnc, hcm, ?_, ?_⟩
      · simp only [List.size_toArray, List.length_append, List.length_take, List.length_drop, Array.length_toList]
        omega
      · rw [List.toList_toArray, List.append_assoc, List.take_append_of_le_length (by rw [List.length_take, Array.length_toList]; omega), List.take_take, Nat.min_self]
        exact htake
    · have holds : ∀ j u, xs[j]? = some u → w.cell? ((⟨q, 0, none⟩ : Addr).add j) = some u := hown.cells (g := q) rfl
      have hr2 := run_append_grow (P := P) w t ty e i z ht hi hz ⟨q, 0, none⟩ n capq xs hown.1 holds ad m c news hl hnews (by omega) (by omega) (growslice_fits (by omega) hbytes)
      rw [hr] at hr2
      injection hr2 with _ hw
      subst hw
      exact ⟨cur, rfl, hbq, (heap_alloc_old w.drew _ (Array.getElem?_eq_some_iff.1 hq).1).trans hq, hnc, hcm, hcs, htake⟩
theorem step_keeps {P : Program} {ops : Array Oper} {o : Oper} {a : Act} {w : World} {K : Act → World → Prop} {Q : Exit → Act → World → Prop} {E : Prop}
    (hg : o.guard = none) (s x : Operand) (t : TypeId) (hop : o.op = Op.call { callee := Callee.builtin Builtin.append, args := #[s, x], argTypes := #[t, t] })
    (base : Nat) (e : TypeId) (i : TypeInfo) (z : Value) (size bytes : Nat) (h1 : P.underlying t = some (.slice e)) (h2 : P.info? e = some i) (h3 : i.zero = some z) (h4 : i.size = size) (h5 : i.bytes = bytes) (h6 : z.cells.size = size) (h7 : 0 < size)
    (v : Value) (n : Nat) (xs : List Value) (hs : a.eval s = v) (hown : w.ownsRow base e size v n xs)
    (ad : Addr) (m c : Nat) (news : List Value) (hx : a.eval x = .slice (some ad) m c) (hn : news.length = m * size) (hc : ∀ j u, news[j]? = some u → w.cell? (ad.add j) = some u) (h1c : ∀ u ∈ news, u.oneCell' = true)
    (hm : 0 < m) (b1 : n + m ≤ maxLen) (b2 : (n + m) * bytes ≤ 140737488355328) (hb : base ≤ w.heap.size)
    (hK : ∀ g c' w', w'.ownsRow base e size (.slice (some ⟨g, 0, none⟩) (n + m) c') (n + m) (xs ++ news) → w.grownBy w' v.ownBlock → w'.ownsRow base e size v n xs → K (a.put o.dst (.slice (some ⟨g, 0, none⟩) (n + m) c')) w') :
    if Region.wanted o (yielded ops a.tmps) = true then Oper.wp P o a w K Q else E := by
  have hw : Region.wanted o (yielded ops a.tmps) = true := by simp [Region.wanted, hg]
  rw [if_pos hw]
  obtain ⟨g, c', w', hrun, r1, r2, r3⟩ := append_keeps (P := P) w t o.type base e i z size bytes h1 h2 h3 h4 h5 h6 h7 v n xs hown ad m c news hn hc h1c hm b1 b2 hb
  unfold Oper.wp
  simp [execOp, hop, resolve, invoke, builtin, hs, hx, hrun, Result.andThen]
  exact hK g c' w' r1 r2 r3

/-! ### how many mazes begin so -/
theorem begin_none (x y : Int) (W : World) :
    Calls Try.prog 29 #[.agg #[.int .i64 x, .int .i64 y], .slice none 0 0] W (Nm (cfZ x y 0 0) W) := by
  have HC := Lib.hid (fun X => couK.countFixedI_any x y 0 0 X)
  have HK := @Lib.hid _ (fun w' b => @nm_mk (cfZ x y 0 0) (cfZ x y 0 0) W w' rfl b)
  have HB := Lib.hid (fun T => below_box W (.cells #[.int .i64 x, .int .i64 y] T))
  have HX := Lib.hid (fun T => box_new x y W T)
  generalize cfZ x y 0 0 = T at *
  go_enter Try.func29, Try.ntmps29
  go_wp2_with fail
  go_loopw [5, 6, 11] (fun u5 u6 u11 wr => u5 = .int .i64 0 ∧ u6 = .int .i64 0 ∧ u11 = .int .i64 0 ∧ Below W.heap.size W wr ∧ Box W.heap.size x y wr) (fun _ _ _ _ => 0)
  case atStart => exact ⟨rfl, rfl, rfl, HB.out _, HX.out _⟩
  case round =>
    obtain ⟨rfl, rfl, rfl, hb0, hx0⟩ := hrel
    have hbl := Lib.hid hb0
    obtain ⟨c0, c1⟩ := hx0.1
    clear hb0 hx0
    go_wp2_with fail
    refine (HC.out _).mono ?_
    rintro e w1 ⟨rfl, hb⟩
    have hbl1 := Lib.hid (below_call hbl.out hb)
    clear hb
    go_wp2_with fail
    go_ret
    exact HK.out _ hbl1.out

set_option maxRecDepth 100000 in
theorem begin_any (x y : Int) (o n g c : Nat) (W : World) (hn : n ≤ 24) (ho : o < 2 ^ n) (hc : ∀ j, j < n → W.cell? ⟨g, j, none⟩ = some (.bool (decide (bt o j = 1)))) :
    Calls Try.prog 29 #[.agg #[.int .i64 x, .int .i64 y], .slice (some ⟨g, 0, none⟩) n c] W (Nm (cfZ x y o (qN n o)) W) := by
  have HC := Lib.hid (fun X => couK.countFixedI_any x y o (qN n o) X)
  have HK := @Lib.hid _ (fun w' b => @nm_mk (cfZ x y o (qN n o)) (cfZ x y o (qN n o)) W w' rfl b)
  have HB := Lib.hid (fun T => below_box W (.cells #[.int .i64 x, .int .i64 y] T))
  have HX := Lib.hid (fun T => box_new x y W T)
  have Hc := Lib.hid (fun j (hj : j < n) X (hb : Below W.heap.size W X) => (hb.cell (p := ⟨g, j, none⟩) (World.block_lt_of_cell? W _ (hc j hj))).trans (hc j hj))
  have HOp := Lib.hid (fun k (hg : k < n) => or_new (mod_lt2 o k) (show k < 24 by omega))
  have HOq := Lib.hid (fun k (hg : k < n) => or_new (q_lt k (o % 2 ^ k)) (show k < 24 by omega))
  have HY := Lib.hid (fun k (h : bt o k = 1) => (⟨(nu_yes (x := x) (y := y) h).1, by rw [(nu_yes (x := x) (y := y) h).1]; exact q_same (mod_lt2 o k)⟩ : _ ∧ qN (k + 1) (o % 2 ^ (k + 1)) = qN k (o % 2 ^ k)))
  have HN := Lib.hid (fun k (h : bt o k ≠ 1) => (⟨(nu_no (x := x) (y := y) h).1, by rw [(nu_no (x := x) (y := y) h).1]; exact q_more (mod_lt2 o k)⟩ : _ ∧ qN (k + 1) (o % 2 ^ (k + 1)) = qN k (o % 2 ^ k) + 2 ^ k))
  have h00 : o % 2 ^ 0 = 0 := by rw [Nat.pow_zero, Nat.mod_one]
  have h01 : qN 0 0 = 0 := rfl
  have H00 := Lib.hid h00
  have Hend := Lib.hid (Nat.mod_eq_of_lt ho)
  clear hc ho h00
  generalize cfZ x y o (qN n o) = T at *
  go_enter Try.func29, Try.ntmps29
  go_wp2_with fail
  go_loopw [5, 6, 11] (fun u5 u6 u11 wr => ∃ k : Nat, k ≤ n ∧ u5 = .int .i64 ((o % 2 ^ k : Nat) : Int) ∧ u6 = .int .i64 (qN k (o % 2 ^ k)) ∧ u11 = .int .i64 k ∧ Below W.heap.size W wr ∧ Box W.heap.size x y wr) (fun _ _ u11 _ => n - (intOf u11).toNat)
  case atStart => exact ⟨0, Nat.zero_le _, by rw [H00.out]; rfl, by rw [H00.out]; rfl, rfl, HB.out _, HX.out _⟩
  case round =>
    obtain ⟨k, hkn0, rfl, rfl, rfl, hb0, hx0⟩ := hrel
    have hbl := Lib.hid hb0
    have hx := Lib.hid hx0
    obtain ⟨c0, c1⟩ := hx0.1
    clear hx0
    by_cases hkn : k < n
    · have hd : decide ((k : Int) < (n : Int)) = true := decide_eq_true (by omega)
      have hk0 : (0 : Int) ≤ (k : Int) := Int.natCast_nonneg _
      have hk1 : (k : Int) < (n : Int) := by omega
      have hk24 : (k : Int) < 24 := by omega
      have hcl := Hc.out k hkn wr hb0
      have hop := HOp.out k hkn
      have hoq := HOq.out k hkn
      clear hb0
      by_cases hbt : bt o k = 1
      · rw [decide_eq_true hbt] at hcl
        have HS := Lib.hid (HY.out k hbt)
        clear hbt HY HN HOp HOq H00 Hc
        generalize hP : o % 2 ^ k = P at *
        generalize hQ : qN k P = Q at *
        generalize hQ' : Q + 2 ^ k = Q' at *
        generalize hP' : P + 2 ^ k = P' at *
        go_wp2_with fail
        go_roundw
        case rel => exact ⟨k + 1, by omega, by rw [HS.out.1], by rw [HS.out.2], by go_num, hbl.out, hx.out⟩
        case measure => simp [intOf]; omega
      · rw [decide_eq_false hbt] at hcl
        have HS := Lib.hid (HN.out k hbt)
        clear hbt HY HN HOp HOq H00 Hc
        generalize hP : o % 2 ^ k = P at *
        generalize hQ : qN k P = Q at *
        generalize hQ' : Q + 2 ^ k = Q' at *
        generalize hP' : P + 2 ^ k = P' at *
        go_wp2_with fail
        go_roundw
        case rel => exact ⟨k + 1, by omega, by rw [HS.out.1], by rw [HS.out.2], by go_num, hbl.out, hx.out⟩
        case measure => simp [intOf]; omega
    · obtain rfl : k = n := by omega
      have hd : decide ((k : Int) < (k : Int)) = false := by simp
      rw [Hend.out]
      clear hb0
      go_wp2_with fail
      refine (HC.out _).mono ?_
      rintro e w1 ⟨rfl, hb⟩
      have hbl1 := Lib.hid (below_call hbl.out hb)
      clear hb
      go_wp2_with fail
      go_ret
      exact HK.out _ hbl1.out

theorem countAllI_any (x y : Int) (W : World) :
    Calls Try.prog 11 #[.agg #[.int .i64 x, .int .i64 y]] W (Nm (cfZ x y 0 0) W) := by
  have HC := Lib.hid (fun X => begin_none x y X)
  have HK := @Lib.hid _ (fun w' b => @nm_mk (cfZ x y 0 0) (cfZ x y 0 0) W w' rfl b)
  have HB := Lib.hid below_box
  generalize cfZ x y 0 0 = T at *
  go_enter Try.func11, Try.ntmps11
  go_wp2_with fail
  refine (HC.out _).mono ?_
  rintro e w1 ⟨rfl, hb⟩
  have hbl1 := Lib.hid (below_call (HB.out _ _) hb)
  clear hb
  go_wp2_with fail
  go_ret
  exact HK.out _ hbl1.out

/-! ### what stands at a loop's head -/
theorem fx_cells {X : World} {base g c n o : Nat} (h : X.ownsRow base 4 1 (.slice (some ⟨g, 0, none⟩) n c) n (bcells (fxL o n))) : ∀ j, j < n → X.cell? ⟨g, j, none⟩ = some (.bool (decide (bt o j = 1))) := fun j hj => by
  rw [h.cellAt j (by omega), bcells_at _ j (by rw [fx_len]; exact hj)]
  have e := fx_at (o := o) hj
  rw [List.getElem?_eq_getElem (by rw [fx_len]; exact hj)] at e
  rw [Option.some.inj e]
theorem t_begin {x y : Int} (hk : OkZ x y) {k p : Nat} (hkg : k < gN x y) (hp : p < 2 ^ k) : cfZ x y p (qN (k + 1) p) = (tkN x y (k + 1) p : Int) := by
  rw [q_more hp]; exact t_cf hk hkg hp
/-- How many mazes begin so, and have a wall at the next gap. -/
theorem begin_wall {x y : Int} (hk : OkZ x y) {k p base g c : Nat} {X : World} {l : List Bool} (hkg : k < gN x y) (hp : p < 2 ^ k) (hl : l = fxL p k) (ho : X.ownsRow base 4 1 (.slice (some ⟨g, 0, none⟩) (k + 1) c) (k + 1) (bcells l ++ bcells [false])) :
    Calls Try.prog 29 #[.agg #[.int .i64 x, .int .i64 y], .slice (some ⟨g, 0, none⟩) (k + 1) c] X (Nm (tkN x y (k + 1) p) X) := by
  subst hl
  rw [← bcells_append, ← fx_wall hp] at ho
  have h1 := (g24 hk).1
  have := begin_any x y p (k + 1) g c X (by omega) (by rw [Nat.pow_succ]; omega) (fx_cells ho)
  rwa [t_begin hk hkg hp] at this
theorem low_grown {base n s : Nat} {X X' : World} {e : TypeId} {v : Value} {xs : List Value} (ho : X.ownsRow base e s v n xs) (hz : base ≤ X.heap.size) (g : X.grownBy X' v.ownBlock) : Below base X X' :=
  (Below.refl base X).grown g hz (fun q hk => (ho.lt q hk).1)

/-- In NumberOf: the maze's box, and the list of what was seen. -/
def NI (W : World) (x y o : Int) (n : Nat) (l : List Bool) (v : Value) (X : World) : Prop := Below W.heap.size W X ∧ MBox W.heap.size x y o X ∧ W.heap.size + 1 ≤ X.heap.size ∧ X.ownsRow (W.heap.size + 1) 4 1 v n (bcells l)
theorem NI.call {W X X' : World} {x y o : Int} {n : Nat} {l : List Bool} {v : Value} (h : NI W x y o n l v X) (hb : Below X.heap.size X X') : NI W x y o n l v X' := ⟨below_call h.1 hb, h.2.1.call hb, Nat.le_trans h.2.2.1 hb.size, own_call h.2.2.2 hb⟩
theorem NI.dr {W X : World} {x y o : Int} {n : Nat} {l : List Bool} {v : Value} (h : NI W x y o n l v X) : NI W x y o n l v X.drew := h.call ⟨rfl, rfl, rfl, Nat.le_refl _, fun _ _ => rfl⟩
theorem ni_new {W X : World} {x y o : Int} (h : Below W.heap.size W X) (hm : MBox W.heap.size x y o X) : NI W x y o 0 [] (.slice none 0 0) X := ⟨h, hm, hm.2, World.ownsRow_nil X _ 4 1⟩
/-- The list has another one beside it. -/
theorem NI.two {W X X' : World} {x y o : Int} {n n' : Nat} {l l' : List Bool} {v v' : Value} (h : NI W x y o n l v X) (hg : X.grownBy X' v.ownBlock) (hk : X'.ownsRow (W.heap.size + 1) 4 1 v' n' (bcells l')) : NI W x y o n' l' v' X' := by
  have hb := low_grown h.2.2.2 h.2.2.1 hg
  exact ⟨h.1.trans (hb.mono (by omega)), mbox_keep h.2.1 (Nat.lt_succ_self _) hb, Nat.le_trans h.2.2.1 hg.size, hk⟩

set_option maxRecDepth 100000 in
set_option maxHeartbeats 2000000 in
theorem numberOfI_any (x y z : Int) (W : World) :
    Calls Try.prog 10 #[.agg #[.int .i64 x, .int .i64 y, .int .i64 z]] W (Nm (nuZ x y z) W) := by
  have HP := Lib.hid (fun X => perfI.isPerfect_any x y z X)
  have HB := Lib.hid below_box
  cases hip : perfP.ipB x y z with
  | false =>
    rw [hip] at HP
    have HK := @Lib.hid _ (fun w' b => @nm_mk (-1) (nuZ x y z) W w' (nb_no hip).symm b)
    clear hip
    go_enter Try.func10, Try.ntmps10
    go_wp2_with fail
    refine (HP.out _).mono ?_
    rintro e w1 ⟨rfl, hb⟩
    have hbl1 := Lib.hid (below_call (HB.out _ _) hb)
    clear hb
    go_wp2_with fail
    go_ret
    exact HK.out _ hbl1.out
  | true =>
    rw [hip] at HP
    obtain ⟨hk, o, rfl, ho, h0⟩ := nb_open hip
    obtain ⟨g1, g2, g3⟩ := g24 hk
    have hv := ip_ok hip
    have HG : Hid (∀ X, Calls Try.prog 27 #[.agg #[.int .i64 x, .int .i64 y]] X (Nm (gpsZ x y) X)) := fun X => gaps_any x y X hk.1 hk.2.1 hk.2.2.1 hk.2.2.2
    rw [g3] at HG
    have ho24 : o < 16777216 := by omega
    have HPs : Hid (∀ k : Nat, k < gN x y → ∀ X, Calls Try.prog 28 #[.agg #[.int .i64 x, .int .i64 y, .int .i64 o], .int .i64 k] X (Bl (decide (bt o k = 1)) X)) := Lib.hid fun k hg X => by
      have := isPassage_any x y o k X
      rwa [show psB x y o k = decide (bt o k = 1) from by
        unfold psB
        rw [bitZ_bt (by omega) (by omega), Int.toNat_natCast, Int.toNat_natCast]
        have := bt_le o k
        by_cases h : bt o k = 1
        · rw [decide_eq_true h, decide_eq_true ⟨hv, by omega, by omega, by omega⟩]
        · rw [decide_eq_false h, decide_eq_false (fun e => h (by omega))]] at this
    have HBg := Lib.hid (fun (k : Nat) (hg : k < gN x y) (base g c : Nat) (X : World) ho => @begin_wall x y hk k (o % 2 ^ k) base g c X (fxL o k) hg (mod_lt2 o k) (fx_mod o k).symm ho)
    have HY := Lib.hid (fun k (h : bt o k = 1) => (⟨(nu_yes (x := x) (y := y) h).2, by rw [fx_next, decide_eq_true h]⟩ : _ ∧ fxL o (k + 1) = fxL o k ++ [true]))
    have HN := Lib.hid (fun k (h : bt o k ≠ 1) => (⟨(nu_no (x := x) (y := y) h).2, by rw [fx_next, decide_eq_false h]⟩ : _ ∧ fxL o (k + 1) = fxL o k ++ [false]))
    have HNb := Lib.hid (fun k (hg : k ≤ gN x y) => nu_most hk ho h0 hg)
    have HTb := Lib.hid (fun k => t_bd hk (k + 1) (o % 2 ^ k))
    have HK := @Lib.hid _ (fun w' b => @nm_mk (nuN x y o (gN x y) : Int) (nuZ x y o) W w' (nb_yes hip).symm b)
    have HX := Lib.hid (fun T => mbox_new x y o W T)
    have H02 := Lib.hid (show nuN x y o 0 = 0 from rfl)
    have Hf0 := Lib.hid (show fxL o 0 = [] from rfl)
    obtain ⟨i0, hi0, hz0, hz1, hz2⟩ := info_parts info_bool
    clear hip hk ho h0 g2 g3 hv
    generalize gN x y = G at *
    go_enter Try.func10, Try.ntmps10
    go_wp2_with fail
    refine (HP.out _).mono ?_
    rintro e w1 ⟨rfl, hb⟩
    have hbl1 := Lib.hid (below_call (HB.out _ _) hb)
    have hxc1 := Lib.hid ((HX.out _).call hb)
    clear hb
    obtain ⟨c0, c1, c2⟩ := hxc1.out.1
    go_wp2_with fail
    refine (HG.out _).mono ?_
    rintro e w2 ⟨rfl, hb⟩
    have hbl2 := Lib.hid (below_call hbl1.out hb)
    have hxc2 := Lib.hid (hxc1.out.call hb)
    clear hb hbl1  hxc1 c0 c1 c2
    obtain ⟨c0, c1, c2⟩ := hxc2.out.1
    go_wp2_with fail
    go_loopw [3, 4, 13] (fun u3 u4 u13 wr => ∃ k : Nat, k ≤ G ∧ u3 = .int .i64 (nuN x y o k) ∧ u13 = .int .i64 k ∧ NI W x y o k (fxL o k) u4 wr) (fun _ _ u13 _ => G - (intOf u13).toNat)
    case atStart => exact ⟨0, Nat.zero_le _, by rw [H02.out]; rfl, rfl, by rw [Hf0.out]; exact ni_new hbl2.out hxc2.out⟩
    case round =>
      obtain ⟨k, hkG, rfl, rfl, hn0⟩ := hrel
      clear hbl2 hxc2
      have hni := Lib.hid hn0
      obtain ⟨m0, m1, m2⟩ := hn0.2.1.1
      obtain ⟨A4, c4, rfl⟩ := own_form hn0.2.2.2
      clear hn0
      by_cases hkn : k < G
      · have hd : decide ((k : Int) < (G : Int)) = true := decide_eq_true (by omega)
        have hk0 : (0 : Int) ≤ (k : Int) := Int.natCast_nonneg _
        have hk24 : (k : Int) < 24 := by omega
        have HP1 := Lib.hid (HPs.out k hkn)
        have HB1 := Lib.hid (HBg.out k hkn)
        have n1 := HNb.out k (by omega)
        have n2 := HTb.out k
        by_cases hbt : bt o k = 1
        · rw [decide_eq_true hbt] at HP1
          have HY1 := Lib.hid (HY.out k hbt)
          clear hbt HY HN HNb HTb HBg H02 Hf0 HPs
          generalize hT : tkN x y (k + 1) (o % 2 ^ k) = T at *
          generalize hN : nuN x y o k = N at *
          generalize hL : fxL o k = L at *
          have q1 : IntKind.i64.wrap ((N : Int) + (T : Int)) = ((N + T : Nat) : Int) := by rw [IntWalk.i64_in _ (by omega)]; omega
          go_wp2_with fail
          refine (HP1.out _).mono ?_
          rintro e w3 ⟨rfl, hb⟩
          have hn3 := Lib.hid (hni.out.call hb)
          clear hb hni m0 m1 m2
          obtain ⟨m0, m1, m2⟩ := hn3.out.2.1.1
          have HO := Lib.hid ((hn3.out.call (below_box _ (.cells #[.bool false] 4))).dr)
          go_wp2_with fail
          try simp only [List.cons_append, List.nil_append, List.append_eq]
          refine wp_region_held_drew (S := (fun w' => w'.cell? ⟨W.heap.size, 0, none⟩ = some (.int .i64 x) ∧ w'.cell? ⟨W.heap.size, 1, none⟩ = some (.int .i64 y) ∧ w'.cell? ⟨W.heap.size, 2, none⟩ = some (.int .i64 o))) (by kernel_rfl) ?_ (fun hHeld0 => ?_)
          · (try dsimp only); go_keep
          refine wpAnyH_take (i := 0) (oi := { dst := some 20, op := Go.Op.move (Go.Operand.tmp 3), type := 3, pos := "l13_number.go:30", after := #[], guard := none }) (v := ?_) rfl (by kernel_rfl) (by kernel_rfl) (by kernel_rfl) (fun _ _ _ h => h) (Or.inl ⟨by rfl, ?_⟩) (by assumption) ?_
          rotate_left
          · (intro w hSw; (try dsimp only at hSw); go_simp; try with_reducible rfl)
          try simp only [Act.put, List.setIfInBounds_toArray, List.set_cons_zero, List.set_cons_succ]
          refine wpAnyH_take (i := 1) (oi := { dst := some 21, op := Go.Op.fieldAddr 27 (Go.Operand.tmp 1) 0, type := 0, pos := "l13_number.go:30", after := #[], guard := none }) (v := ?_) rfl (by kernel_rfl) (by kernel_rfl) (by kernel_rfl) (fun _ _ _ h => h) (Or.inl ⟨by rfl, ?_⟩) (by assumption) ?_
          rotate_left
          · (intro w hSw; (try dsimp only at hSw); go_simp; try with_reducible rfl)
          try simp only [Act.put, List.setIfInBounds_toArray, List.set_cons_zero, List.set_cons_succ]
          refine wpAnyH_take (i := 2) (oi := { dst := some 22, op := Go.Op.load 25 (Go.Operand.tmp 21), type := 25, pos := "l13_number.go:30", after := #[{ on := 1, ground := Go.Ground.data }], guard := none }) (v := ?_) rfl (by kernel_rfl) (by kernel_rfl) (by kernel_rfl) (fun _ _ _ h => h) (Or.inl ⟨by rfl, ?_⟩) (by assumption) ?_
          rotate_left
          · (intro w hSw; (try dsimp only at hSw); go_simp; try with_reducible rfl)
          try simp only [Act.put, List.setIfInBounds_toArray, List.set_cons_zero, List.set_cons_succ]
          refine wpAnyH_take (i := 3) (oi := { dst := some 23, op := Go.Op.move (Go.Operand.tmp 4), type := 49, pos := "l13_number.go:30", after := #[], guard := none }) (v := ?_) rfl (by kernel_rfl) (by kernel_rfl) (by kernel_rfl) (fun _ _ _ h => h) (Or.inl ⟨by rfl, ?_⟩) (by assumption) ?_
          rotate_left
          · (intro w hSw; (try dsimp only at hSw); go_simp; try with_reducible rfl)
          try simp only [Act.put, List.setIfInBounds_toArray, List.set_cons_zero, List.set_cons_succ]
          refine wpAnyH_ready (rs := [4]) (by kernel_rfl) (by simp) ?_
          refine AllReadyH.cons (o := { dst := some 24, op := Go.Op.buildSlice 49 1 #[(0, Go.Operand.const (Go.Value.bool false))], type := 49, pos := "l13_number.go:30", after := #[], guard := none }) rfl (fun K4 hK4 => ?_) AllReadyH.nil
          go_simp
          refine hK4.out _ _ ?_ (fun hHeld1 => ?_)
          · (try dsimp only); go_keep
          clear hK4 K4 hHeld0
          try simp only [Act.put, List.setIfInBounds_toArray, List.set_cons_zero, List.set_cons_succ]
          refine wpAnyH_ready (rs := [5]) (by kernel_rfl) (by simp) ?_
          refine AllReadyH.cons (o := { dst := some 25, op := Go.Op.call { callee := Go.Callee.builtin Go.Builtin.append, args := #[Go.Operand.tmp 23, Go.Operand.tmp 24], argTypes := #[49, 49] }, type := 49, pos := "l13_number.go:30", after := #[{ on := 3, ground := Go.Ground.data }, { on := 4, ground := Go.Ground.data }], guard := none }) rfl (fun K5 hK5 => ?_) AllReadyH.nil
          refine step_keeps rfl (.tmp 23) (.tmp 24) 49 rfl (W.heap.size + 1) 4 i0 _ 1 1 Try.underlying49 hi0 hz0 hz1 hz2 rfl (by decide) _ k _ rfl HO.out.2.2.2 ⟨w3.heap.size, 0, none⟩ 1 1 (bcells [false]) rfl rfl (news_eqI rfl (heap_alloc_new w3 _)) (oneCellB _) (by omega) (by unfold maxLen; omega) (by omega) HO.out.2.2.1 ?_; intro gg c5 w4 o4 g4 k4; have hn4 := Lib.hid (HO.out.two g4 k4); have HC5 := Lib.hid (HB1.out _ gg c5 w4 o4); clear o4 g4 k4; obtain ⟨p0, p1, p2⟩ := hn4.out.2.1.1
          refine hK5.out _ _ ?_ (fun hHeld2 => ?_)
          · (try dsimp only); exact ⟨p0, p1, p2⟩
          clear hK5 K5 hHeld1
          try simp only [Act.put, List.setIfInBounds_toArray, List.set_cons_zero, List.set_cons_succ]
          refine wpAnyH_ready (rs := [6]) (by kernel_rfl) (by simp) ?_
          refine AllReadyH.cons (o := { dst := some 26, op := Go.Op.call { callee := Go.Callee.value (Go.Operand.func 29), args := #[Go.Operand.tmp 22, Go.Operand.tmp 25], argTypes := #[25, 49] }, type := 3, pos := "l13_number.go:30", after := #[{ on := 2, ground := Go.Ground.data }, { on := 5, ground := Go.Ground.data }, { on := 5, ground := Go.Ground.chain }], guard := none }) rfl (fun K6 hK6 => ?_) AllReadyH.nil
          go_simp
          (refine HC5.out.mono ?_; rintro e w5 ⟨rfl, hb⟩; have hn5 := Lib.hid (hn4.out.call hb); clear hb; obtain ⟨r0, r1, r2⟩ := hn5.out.2.1.1)
          go_wp2_with fail
          refine hK6.out _ _ ?_ (fun hHeld3 => ?_)
          · (try dsimp only); go_keep
          clear hK6 K6 hHeld2
          try simp only [Act.put, List.setIfInBounds_toArray, List.set_cons_zero, List.set_cons_succ]
          refine wpAnyH_take (i := 7) (oi := { dst := some 27, op := Go.Op.binOp Go.BinOp.add 3 (Go.Operand.tmp 20) (Go.Operand.tmp 26) 3, type := 3, pos := "l13_number.go:30", after := #[{ on := 0, ground := Go.Ground.data }, { on := 6, ground := Go.Ground.data }], guard := none }) (v := ?_) rfl (by kernel_rfl) (by kernel_rfl) (by kernel_rfl) (fun _ _ _ h => h) (Or.inl ⟨by rfl, ?_⟩) (by assumption) ?_
          rotate_left
          · (intro w hSw; (try dsimp only at hSw); go_simp; try with_reducible rfl)
          try simp only [Act.put, List.setIfInBounds_toArray, List.set_cons_zero, List.set_cons_succ]
          refine wpAnyH_take (i := 8) (oi := { dst := some 3, op := Go.Op.assign (Go.Operand.tmp 27), type := 3, pos := "l13_number.go:30", after := #[{ on := 7, ground := Go.Ground.data }, { on := 6, ground := Go.Ground.chain }, { on := 0, ground := Go.Ground.phase }, { on := 1, ground := Go.Ground.phase }, { on := 2, ground := Go.Ground.phase }, { on := 3, ground := Go.Ground.phase }, { on := 4, ground := Go.Ground.phase }, { on := 5, ground := Go.Ground.phase }, { on := 6, ground := Go.Ground.phase }, { on := 7, ground := Go.Ground.phase }], guard := none }) (v := ?_) rfl (by kernel_rfl) (by kernel_rfl) (by kernel_rfl) (fun _ _ _ h => h) (Or.inl ⟨by rfl, ?_⟩) (by assumption) ?_
          rotate_left
          · (intro w hSw; (try dsimp only at hSw); go_simp; try with_reducible rfl)
          try simp only [Act.put, List.setIfInBounds_toArray, List.set_cons_zero, List.set_cons_succ]
          refine wpAnyH_done (by kernel_rfl) ?_ _
          go_wp2_with (at_builtin; refine wpList_append_lies _ rfl (.tmp 28) (.tmp 30) 49 rfl (W.heap.size + 1) 4 i0 _ 1 1 Try.underlying49 hi0 hz0 hz1 hz2 rfl (by omega) _ k _ rfl (hn5.out.2.2.2.alloc _) ⟨w5.heap.size, 0, none⟩ 1 1 (bcells [true]) rfl rfl (news_eqI rfl (heap_alloc_new w5 _)) (oneCellB _) (by omega) (by unfold maxLen; omega) (by omega) (Nat.le_trans hn5.out.2.2.1 (by simp)) _ rfl ?_; intro g6 c6 w6 o6 g6' hat hlt2; clear hat hlt2; have hn6 := Lib.hid ((hn5.out.call (below_box _ _)).two (l' := L ++ [true]) g6' (by rw [bcells_append]; exact o6)); clear o6 g6')
          go_roundw
          case rel => exact ⟨k + 1, by omega, by rw [HY1.out.1]; (try go_num), by go_num, by rw [HY1.out.2]; exact hn6.out⟩
          case measure => simp [intOf]; omega
        · rw [decide_eq_false hbt] at HP1
          have HY1 := Lib.hid (HN.out k hbt)
          clear hbt HY HN HNb HTb HBg H02 Hf0 HPs HB1
          generalize hN : nuN x y o k = N at *
          generalize hL : fxL o k = L at *
          go_wp2_with fail
          refine (HP1.out _).mono ?_
          rintro e w3 ⟨rfl, hb⟩
          have hn3 := Lib.hid (hni.out.call hb)
          clear hb hni m0 m1 m2
          go_wp2_with (at_builtin; refine wpList_append_lies _ rfl (.tmp 28) (.tmp 30) 49 rfl (W.heap.size + 1) 4 i0 _ 1 1 Try.underlying49 hi0 hz0 hz1 hz2 rfl (by omega) _ k _ rfl (hn3.out.2.2.2.alloc _) ⟨w3.heap.size, 0, none⟩ 1 1 (bcells [false]) rfl rfl (news_eqI rfl (heap_alloc_new w3 _)) (oneCellB _) (by omega) (by unfold maxLen; omega) (by omega) (Nat.le_trans hn3.out.2.2.1 (by simp)) _ rfl ?_; intro g6 c6 w6 o6 g6' hat hlt2; clear hat hlt2; have hn6 := Lib.hid ((hn3.out.call (below_box _ _)).two (l' := L ++ [false]) g6' (by rw [bcells_append]; exact o6)); clear o6 g6')
          go_roundw
          case rel => exact ⟨k + 1, by omega, by rw [HY1.out.1]; (try go_num), by go_num, by rw [HY1.out.2]; exact hn6.out⟩
          case measure => simp [intOf]; omega
      · obtain rfl : k = G := by omega
        have hd : decide ((k : Int) < (k : Int)) = false := by simp
        go_wp2_with fail
        go_ret
        exact HK.out _ hni.out.1

/-! ### a number's maze -/
theorem box_low {b B : Nat} {x y : Int} {X X' : World} (h : Box b x y X) (hb : b < B) (hw : Below B X X') : Box b x y X' :=
  ⟨⟨(hw.cell (p := ⟨b, 0, none⟩) hb).trans h.1.1, (hw.cell (p := ⟨b, 1, none⟩) hb).trans h.1.2⟩, Nat.lt_of_lt_of_le h.2 hw.size⟩
theorem row3_low {b B : Nat} {x y z : Int} {X X' : World} (h : Row3 b x y z X) (hb : b < B) (hw : Below B X X') : Row3 b x y z X' := by
  obtain ⟨T, h⟩ := h
  exact ⟨T, (hw.block b hb).trans h⟩
/-- A maze's block gets another maze. -/
def set3 (X : World) (b : Nat) (x y z : Int) : World := ((X.setCell ⟨b, 0, none⟩ (.int .i64 x)).setCell ⟨b, 1, none⟩ (.int .i64 y)).setCell ⟨b, 2, none⟩ (.int .i64 z)
theorem row3_set3 {b : Nat} {x y z x' y' z' : Int} {X : World} (h : Row3 b x y z X) : Row3 b x' y' z' (set3 X b x' y' z') := by
  obtain ⟨T, h⟩ := h
  exact ⟨T, by unfold set3; simp [World.setCell, Array.getElem?_modify, h]⟩
theorem low_set3 (X : World) (b : Nat) (x y z : Int) : Below b X (set3 X b x y z) :=
  Below.setCell (Below.setCell (Below.setCell (Below.refl b X) (Nat.le_refl _) _) (Nat.le_refl _) _) (Nat.le_refl _) _
theorem set3_new (X : World) (b : Nat) (x y z : Int) (o : Obj) : ((set3 X b x y z).alloc o).heap[X.heap.size]? = some o := by
  have h := heap_alloc_new (set3 X b x y z) o
  have e : (set3 X b x y z).heap.size = X.heap.size := by simp [set3, World.setCell]
  rwa [e] at h
theorem below_set {W X Y : World} {b : Nat} {u v w : Value} (h : Below W.heap.size W X) (hb : W.heap.size ≤ b) (hY : Y = ((X.setCell ⟨b, 0, none⟩ u).setCell ⟨b, 1, none⟩ v).setCell ⟨b, 2, none⟩ w) : Below W.heap.size W Y := by
  subst hY
  exact Below.setCell (Below.setCell (Below.setCell h hb _) hb _) hb _
theorem mzb4 {x x' y y' z z' : Int} {b b' : Bool} {w w' : World} (hx : x = x') (hy : y = y') (h : z = z') (h' : b = b') (hb : Below w.heap.size w w') : MzB x' y' z' b' w (.returned (.tuple #[.agg #[.int .i64 x, .int .i64 y, .int .i64 z], .bool b])) w' := ⟨by rw [hx, hy, h, h'], hb⟩
/-- What stands: the grid's box, and the block in which the answer is made. -/
def MS (W : World) (x y : Int) (X : World) : Prop := Below W.heap.size W X ∧ Box W.heap.size x y X ∧ Row3 (W.heap.size + 1) 0 0 0 X
theorem MS.call {W X X' : World} {x y : Int} (h : MS W x y X) (hb : Below X.heap.size X X') : MS W x y X' := ⟨below_call h.1 hb, h.2.1.call hb, h.2.2.call hb⟩
theorem MS.dr {W X : World} {x y : Int} (h : MS W x y X) : MS W x y X.drew := h.call ⟨rfl, rfl, rfl, Nat.le_refl _, fun _ _ => rfl⟩
theorem MS.low {W X X' : World} {x y : Int} {B : Nat} (h : MS W x y X) (hB : W.heap.size + 2 ≤ B) (hw : Below B X X') : MS W x y X' :=
  ⟨h.1.trans (hw.mono (by omega)), box_low h.2.1 (by omega) hw, row3_low h.2.2 (by omega) hw⟩
theorem ms_new (x y : Int) (W : World) (T T' : TypeId) : MS W x y ((W.alloc (.cells #[.int .i64 x, .int .i64 y] T)).alloc (.cells #[.int .i64 0, .int .i64 0, .int .i64 0] T')) :=
  ⟨below_two _ _ _, box_two x y W T _, by have := row3_new 0 0 0 (W.alloc (.cells #[.int .i64 x, .int .i64 y] T)) T'; simpa using this⟩
/-- The maze that grows, and the list of its gaps. -/
def AI (W : World) (x y : Int) (M : Nat) (p : Int) (n : Nat) (l : List Bool) (v : Value) (X : World) : Prop :=
  MS W x y X ∧ Row3 M x y p X ∧ W.heap.size + 2 ≤ M ∧ M + 1 ≤ X.heap.size ∧ X.ownsRow (M + 1) 4 1 v n (bcells l)
theorem AI.call {W X X' : World} {x y p : Int} {M n : Nat} {l : List Bool} {v : Value} (h : AI W x y M p n l v X) (hb : Below X.heap.size X X') : AI W x y M p n l v X' := ⟨h.1.call hb, h.2.1.call hb, h.2.2.1, Nat.le_trans h.2.2.2.1 hb.size, own_call h.2.2.2.2 hb⟩
theorem AI.dr {W X : World} {x y p : Int} {M n : Nat} {l : List Bool} {v : Value} (h : AI W x y M p n l v X) : AI W x y M p n l v X.drew := h.call ⟨rfl, rfl, rfl, Nat.le_refl _, fun _ _ => rfl⟩
theorem AI.two {W X X' : World} {x y p : Int} {M n n' : Nat} {l l' : List Bool} {v v' : Value} (h : AI W x y M p n l v X) (hg : X.grownBy X' v.ownBlock) (hk : X'.ownsRow (M + 1) 4 1 v' n' (bcells l')) : AI W x y M p n' l' v' X' := by
  have hb := low_grown h.2.2.2.2 h.2.2.2.1 hg
  exact ⟨h.1.low (by have := h.2.2.1; omega) hb, row3_low h.2.1 (Nat.lt_succ_self _) hb, h.2.2.1, Nat.le_trans h.2.2.2.1 hg.size, hk⟩
theorem AI.put {W X : World} {x y p : Int} {M n : Nat} {l : List Bool} {v : Value} (h : AI W x y M p n l v X) (p' : Int) : AI W x y M p' n l v (set3 X M x y p') :=
  ⟨h.1.low h.2.2.1 (low_set3 X M x y p'), row3_set3 h.2.1, h.2.2.1, Nat.le_trans h.2.2.2.1 (low_set3 X M x y p').size,
    ownsRow_setCell_below (ownsRow_setCell_below (ownsRow_setCell_below h.2.2.2.2 (Nat.lt_succ_self _) _) (Nat.lt_succ_self _) _) (Nat.lt_succ_self _) _⟩
theorem ai_new {W X : World} {x y : Int} (h : MS W x y X) (T : TypeId) : AI W x y X.heap.size 0 0 [] (.slice none 0 0) (X.alloc (.cells #[.int .i64 x, .int .i64 y, .int .i64 0] T)) :=
  ⟨h.call (below_box _ _), row3_new x y 0 X T, by have := row3_lt h.2.2; omega, by simp, World.ownsRow_nil _ _ 4 1⟩

set_option maxRecDepth 100000 in
set_option maxHeartbeats 4000000 in
theorem mazeAtI_any (x y n : Int) (W : World) :
    Calls Try.prog 12 #[.agg #[.int .i64 x, .int .i64 y], .int .i64 n] W (MzB (atX x y n) (atY x y n) (atO x y n) (atB x y n) W) := by
  have HA := Lib.hid (fun X => countAllI_any x y X)
  have HM := Lib.hid (fun T T' => ms_new x y W T T')
  have hcb := cntU.cf_bd x y 0 0
  by_cases h : 0 ≤ n ∧ n < cfZ x y 0 0
  · have hd0 : decide (n < 0) = false := decide_eq_false (by omega)
    have hd1 : decide (cfZ x y 0 0 ≤ n) = false := decide_eq_false (by omega)
    obtain ⟨hk, m, rfl, hm, e1, e2, e3, e4⟩ := at_yes h
    obtain ⟨g1, g2, g3⟩ := g24 hk
    have HG : Hid (∀ X, Calls Try.prog 27 #[.agg #[.int .i64 x, .int .i64 y]] X (Nm (gpsZ x y) X)) := fun X => gaps_any x y X hk.1 hk.2.1 hk.2.2.1 hk.2.2.2
    rw [g3] at HG
    have HBg := Lib.hid (fun (k : Nat) (hg : k < gN x y) (base g c : Nat) (X : World) ho => @begin_wall x y hk k (maS x y m k).1 base g c X (fxL (maS x y m k).1 k) hg (ma_lt hm (by omega)) rfl ho)
    have HSg : Hid (∀ k : Nat, k < gN x y → ∀ X, Calls Try.prog 30 #[.agg #[.int .i64 x, .int .i64 y, .int .i64 (((maS x y m k).1 : Nat) : Int)], .int .i64 k, .bool true] X (MzB x y (((maS x y m k).1 + 2 ^ k : Nat) : Int) (sgB x y (((maS x y m k).1 : Nat) : Int) k) X)) := fun k hg X => by
      have := setGap_any x y (((maS x y m k).1 : Nat) : Int) k true X
      rwa [sg_new hk (ma_lt hm (by omega)) hg] at this
    have HY := Lib.hid (fun k (hg : k < gN x y) (h : ¬ (maS x y m k).2 < tkN x y (k + 1) (maS x y m k).1) => (⟨(ma_yes h).1, (ma_yes h).2, by rw [(ma_yes h).1]; exact fx_gap (ma_lt hm (by omega))⟩ : _ ∧ _ ∧ fxL (maS x y m (k + 1)).1 (k + 1) = fxL (maS x y m k).1 k ++ [true]))
    have HN := Lib.hid (fun k (hg : k < gN x y) (h : (maS x y m k).2 < tkN x y (k + 1) (maS x y m k).1) => (⟨(ma_no h).1, (ma_no h).2, by rw [(ma_no h).1]; exact fx_wall (ma_lt hm (by omega))⟩ : _ ∧ _ ∧ fxL (maS x y m (k + 1)).1 (k + 1) = fxL (maS x y m k).1 k ++ [false]))
    have HRb := Lib.hid (fun k (hg : k ≤ gN x y) => ma_bd hk hm hg)
    have HTb := Lib.hid (fun k => t_bd hk (k + 1) (maS x y m k).1)
    have HK := @Lib.hid _ (fun w' b => @mzb4 x (atX x y m) y (atY x y m) _ (atO x y m) true (atB x y m) W w' e2.symm e3.symm e4.symm e1.symm b)
    have H00 := Lib.hid (show (maS x y m 0).1 = 0 from rfl)
    have H02 := Lib.hid (show (maS x y m 0).2 = m from rfl)
    have Hf0 := Lib.hid (show fxL (maS x y m 0).1 0 = [] from rfl)
    obtain ⟨i0, hi0, hz0, hz1, hz2⟩ := info_parts info_bool
    clear h hk hm e1 e2 e3 e4 g2 g3
    generalize cfZ x y 0 0 = T0 at *
    generalize atX x y m = x' at *
    generalize atY x y m = y' at *
    generalize atO x y m = z' at *
    generalize atB x y m = b' at *
    generalize gN x y = G at *
    generalize hp : (fun k => (maS x y m k).1) = p at *
    generalize hr : (fun k => (maS x y m k).2) = r at *
    have hp' : ∀ k, (maS x y m k).1 = p k := fun k => by rw [← hp]
    have hr' : ∀ k, (maS x y m k).2 = r k := fun k => by rw [← hr]
    simp only [hp', hr'] at *
    clear hp hr hp' hr'
    go_enter Try.func12, Try.ntmps12
    go_wp2_with fail
    refine (HA.out _).mono ?_
    rintro e w1 ⟨rfl, hb⟩
    have hm1 := Lib.hid ((HM.out _ _).call hb)
    clear hb HM
    obtain ⟨c0, c1⟩ := hm1.out.2.1.1
    have ha1 := Lib.hid (ai_new hm1.out 27)
    have d0 := ha1.out.1.2.1.1.1
    have d1 := ha1.out.1.2.1.1.2
    go_wp2_with fail
    refine (HG.out _).mono ?_
    rintro e w2 ⟨rfl, hb⟩
    have ha2 := Lib.hid (ha1.out.call hb)
    clear hb hm1 ha1 c0 c1 d0 d1
    generalize w1.heap.size = M at *
    go_wp2_with fail
    go_loopw [1, 7, 24] (fun u1 u7 u24 wr => ∃ k : Nat, k ≤ G ∧ u1 = .int .i64 (r k) ∧ u24 = .int .i64 k ∧ AI W x y M (p k) k (fxL (p k) k) u7 wr) (fun _ _ u24 _ => G - (intOf u24).toNat)
    case atStart => exact ⟨0, Nat.zero_le _, by rw [H02.out], rfl, by rw [Hf0.out, H00.out]; exact ha2.out⟩
    case round =>
      obtain ⟨k, hkG, rfl, rfl, hn0⟩ := hrel
      clear ha2
      have hai := Lib.hid hn0
      obtain ⟨c0, c1⟩ := hn0.1.2.1.1
      obtain ⟨A4, c4, rfl⟩ := own_form hn0.2.2.2.2
      by_cases hkn : k < G
      · clear hn0
        have hd : decide ((k : Int) < (G : Int)) = true := decide_eq_true (by omega)
        have hk0 : (0 : Int) ≤ (k : Int) := Int.natCast_nonneg _
        have HB1 := Lib.hid (HBg.out k hkn)
        have HS1 := Lib.hid (HSg.out k hkn)
        have n1 := HRb.out k (by omega)
        have n2 := HTb.out k
        have HY1 := Lib.hid (HY.out k hkn)
        have HN1 := Lib.hid (HN.out k hkn)
        clear HY HN HRb HTb HBg HSg H00 H02 Hf0
        generalize hP : p k = P at *
        generalize hP' : P + 2 ^ k = P' at *
        generalize hT : tkN x y (k + 1) P = T at *
        generalize hN : r k = R at *
        generalize hL : fxL P k = L at *
        generalize sgB x y P k = sb at *
        have HO := Lib.hid ((hai.out.call (below_box _ (.cells #[.bool false] 4))).dr)
        go_wp2_with fail
        try simp only [List.cons_append, List.nil_append, List.append_eq]
        refine wp_region_held_drew (S := (fun w' => w'.cell? ⟨W.heap.size, 0, none⟩ = some (.int .i64 x) ∧ w'.cell? ⟨W.heap.size, 1, none⟩ = some (.int .i64 y))) (by kernel_rfl) ?_ (fun hHeld0 => ?_)
        · (try dsimp only); go_keep
        refine wpAnyH_take (i := 0) (oi := { dst := some 27, op := Go.Op.load 25 (Go.Operand.tmp 2), type := 25, pos := "l13_number.go:44", after := #[], guard := none }) (v := ?_) rfl (by kernel_rfl) (by kernel_rfl) (by kernel_rfl) (fun _ _ _ h => h) (Or.inl ⟨by rfl, ?_⟩) (by assumption) ?_
        rotate_left
        · (intro w hSw; (try dsimp only at hSw); go_simp; try with_reducible rfl)
        try simp only [Act.put, List.setIfInBounds_toArray, List.set_cons_zero, List.set_cons_succ]
        refine wpAnyH_take (i := 1) (oi := { dst := some 28, op := Go.Op.move (Go.Operand.tmp 7), type := 49, pos := "l13_number.go:44", after := #[], guard := none }) (v := ?_) rfl (by kernel_rfl) (by kernel_rfl) (by kernel_rfl) (fun _ _ _ h => h) (Or.inl ⟨by rfl, ?_⟩) (by assumption) ?_
        rotate_left
        · (intro w hSw; (try dsimp only at hSw); go_simp; try with_reducible rfl)
        try simp only [Act.put, List.setIfInBounds_toArray, List.set_cons_zero, List.set_cons_succ]
        refine wpAnyH_ready (rs := [2]) (by kernel_rfl) (by simp) ?_
        refine AllReadyH.cons (o := { dst := some 29, op := Go.Op.buildSlice 49 1 #[(0, Go.Operand.const (Go.Value.bool false))], type := 49, pos := "l13_number.go:44", after := #[], guard := none }) rfl (fun K2 hK2 => ?_) AllReadyH.nil
        go_simp
        refine hK2.out _ _ ?_ (fun hHeld1 => ?_)
        · (try dsimp only); go_keep
        clear hK2 K2 hHeld0
        try simp only [Act.put, List.setIfInBounds_toArray, List.set_cons_zero, List.set_cons_succ]
        refine wpAnyH_ready (rs := [3]) (by kernel_rfl) (by simp) ?_
        refine AllReadyH.cons (o := { dst := some 30, op := Go.Op.call { callee := Go.Callee.builtin Go.Builtin.append, args := #[Go.Operand.tmp 28, Go.Operand.tmp 29], argTypes := #[49, 49] }, type := 49, pos := "l13_number.go:44", after := #[{ on := 1, ground := Go.Ground.data }, { on := 2, ground := Go.Ground.data }], guard := none }) rfl (fun K3 hK3 => ?_) AllReadyH.nil
        refine step_keeps rfl (.tmp 28) (.tmp 29) 49 rfl (M + 1) 4 i0 _ 1 1 Try.underlying49 hi0 hz0 hz1 hz2 rfl (by decide) _ k _ rfl HO.out.2.2.2.2 ⟨wr.heap.size, 0, none⟩ 1 1 (bcells [false]) rfl rfl (news_eqI rfl (heap_alloc_new wr _)) (oneCellB _) (by omega) (by unfold maxLen; omega) (by omega) HO.out.2.2.2.1 ?_; intro gg c5 w4 o4 g4 k4; have hn4 := Lib.hid (HO.out.two g4 k4); have HC5 := Lib.hid (HB1.out _ gg c5 w4 o4); clear o4 g4 k4; obtain ⟨p0, p1⟩ := hn4.out.1.2.1.1
        refine hK3.out _ _ ?_ (fun hHeld2 => ?_)
        · (try dsimp only); exact ⟨p0, p1⟩
        clear hK3 K3 hHeld1
        try simp only [Act.put, List.setIfInBounds_toArray, List.set_cons_zero, List.set_cons_succ]
        refine wpAnyH_ready (rs := [4]) (by kernel_rfl) (by simp) ?_
        refine AllReadyH.cons (o := { dst := some 31, op := Go.Op.call { callee := Go.Callee.value (Go.Operand.func 29), args := #[Go.Operand.tmp 27, Go.Operand.tmp 30], argTypes := #[25, 49] }, type := 3, pos := "l13_number.go:44", after := #[{ on := 0, ground := Go.Ground.data }, { on := 3, ground := Go.Ground.data }, { on := 3, ground := Go.Ground.chain }], guard := none }) rfl (fun K4 hK4 => ?_) AllReadyH.nil
        go_simp
        (refine HC5.out.mono ?_; rintro e w5 ⟨rfl, hb⟩; have hn5 := Lib.hid (hn4.out.call hb); clear hb; obtain ⟨r0, r1⟩ := hn5.out.1.2.1.1)
        go_wp2_with fail
        refine hK4.out _ _ ?_ (fun hHeld3 => ?_)
        · (try dsimp only); go_keep
        clear hK4 K4 hHeld2
        try simp only [Act.put, List.setIfInBounds_toArray, List.set_cons_zero, List.set_cons_succ]
        refine wpAnyH_take (i := 5) (oi := { dst := some 9, op := Go.Op.assign (Go.Operand.tmp 31), type := 3, pos := "l13_number.go:44", after := #[{ on := 4, ground := Go.Ground.data }, { on := 4, ground := Go.Ground.chain }, { on := 0, ground := Go.Ground.phase }, { on := 1, ground := Go.Ground.phase }, { on := 2, ground := Go.Ground.phase }, { on := 3, ground := Go.Ground.phase }, { on := 4, ground := Go.Ground.phase }], guard := none }) (v := ?_) rfl (by kernel_rfl) (by kernel_rfl) (by kernel_rfl) (fun _ _ _ h => h) (Or.inl ⟨by rfl, ?_⟩) (by assumption) ?_
        rotate_left
        · (intro w hSw; (try dsimp only at hSw); go_simp; try with_reducible rfl)
        try simp only [Act.put, List.setIfInBounds_toArray, List.set_cons_zero, List.set_cons_succ]
        refine wpAnyH_done (by kernel_rfl) ?_ _
        by_cases hlt : R < T
        · have hd2 : decide ((T : Int) ≤ (R : Int)) = false := decide_eq_false (by omega)
          have hd3 : decide (T ≤ R) = false := decide_eq_false (by omega)
          have HS := Lib.hid (HN1.out hlt)
          clear HN1 HY1
          go_wp2_with (at_builtin; refine wpList_append_lies _ rfl (.tmp 45) (.tmp 47) 49 rfl (M + 1) 4 i0 _ 1 1 Try.underlying49 hi0 hz0 hz1 hz2 rfl (by omega) _ k _ rfl (hn5.out.2.2.2.2.alloc _) ⟨w5.heap.size, 0, none⟩ 1 1 (bcells [false]) rfl rfl (news_eqI rfl (heap_alloc_new w5 _)) (oneCellB _) (by omega) (by unfold maxLen; omega) (by omega) (Nat.le_trans hn5.out.2.2.2.1 (by simp)) _ rfl ?_; intro g6 c6 w6 o6 g6' hat hlt2; clear hat hlt2; have hn6 := Lib.hid ((hn5.out.call (below_box _ _)).two (l' := L ++ [false]) g6' (by rw [bcells_append]; exact o6)); clear o6 g6')
          go_roundw
          case rel => exact ⟨k + 1, by omega, by rw [HS.out.2.1], by go_num, by rw [HS.out.2.2, HS.out.1]; exact hn6.out⟩
          case measure => simp [intOf]; omega
        · have hd2 : decide ((T : Int) ≤ (R : Int)) = true := decide_eq_true (by omega)
          have hd3 : decide (T ≤ R) = true := decide_eq_true (by omega)
          have HS := Lib.hid (HY1.out hlt)
          have q2 : IntKind.i64.wrap ((R : Int) - (T : Int)) = ((R - T : Nat) : Int) := by rw [IntWalk.i64_in _ (by omega)]; omega
          clear HN1 HY1
          obtain ⟨⟨s0, s1, s2⟩, f0, f1, f2⟩ := row3_cells hn5.out.2.1
          go_wp2_with fail
          refine (HS1.out _).mono ?_
          rintro e w6 ⟨rfl, hb⟩
          have hn6 := Lib.hid (hn5.out.call hb)
          clear hb s0 s1 s2 f0 f1 f2
          obtain ⟨⟨s0, s1, s2⟩, f0, f1, f2⟩ := row3_cells hn6.out.2.1
          have hn7 := Lib.hid (hn6.out.put (P' : Int))
          have hw7 := Lib.hid (set3_new w6 M x y (P' : Int) (.cells #[.bool true] 4))
          go_wp2_with (at_builtin; refine wpList_append_lies _ rfl (.tmp 45) (.tmp 47) 49 rfl (M + 1) 4 i0 _ 1 1 Try.underlying49 hi0 hz0 hz1 hz2 rfl (by omega) _ k _ rfl (hn7.out.2.2.2.2.alloc _) ⟨w6.heap.size, 0, none⟩ 1 1 (bcells [true]) rfl rfl (news_eqI rfl hw7.out) (oneCellB _) (by omega) (by unfold maxLen; omega) (by omega) (Nat.le_trans hn7.out.2.2.2.1 (below_box _ _).size) _ rfl ?_; intro g8 c8 w8 o8 g8' hat hlt2; clear hat hlt2; have hn8 := Lib.hid ((hn7.out.call (below_box _ _)).two (l' := L ++ [true]) g8' (by rw [bcells_append]; exact o8)); clear o8 g8')
          go_roundw
          case rel => exact ⟨k + 1, by omega, by rw [HS.out.2.1], by go_num, by rw [HS.out.2.2, HS.out.1]; exact hn8.out⟩
          case measure => simp [intOf]; omega
      · obtain rfl : k = G := by omega
        have hd : decide ((k : Int) < (k : Int)) = false := by simp
        obtain ⟨s0, s1, s2⟩ := (row3_cells hn0.2.1).1
        obtain ⟨⟨e0, e1, e2⟩, f0, f1, f2⟩ := row3_cells hn0.1.2.2
        clear hn0
        go_wp2_with fail
        refine ret_set3 e0 e1 e2 fun Y g0 g1 g2 hY => ?_
        exact bodyPost_ret (v := .tuple #[.agg #[.int .i64 x, .int .i64 y, .int .i64 (p k)], .bool true]) (by simp [results, Try.results12, go_sem, g0, g1, g2]) rfl (HK.out _ (below_set hai.out.1.1 (by omega) hY))
  · obtain ⟨e1, e2, e3, e4⟩ := at_no h
    have HK := @Lib.hid _ (fun w' b => @mzb4 0 (atX x y n) 0 (atY x y n) 0 (atO x y n) false (atB x y n) W w' e2.symm e3.symm e4.symm e1.symm b)
    clear e1 e2 e3 e4
    generalize cfZ x y 0 0 = T0 at *
    generalize atX x y n = x' at *
    generalize atY x y n = y' at *
    generalize atO x y n = z' at *
    generalize atB x y n = b' at *
    by_cases hn : n < 0
    · have hd0 : decide (n < 0) = true := decide_eq_true hn
      have hm1 := Lib.hid (HM.out 25 27)
      clear h HM
      obtain ⟨⟨e0, e1, e2⟩, f0, f1, f2⟩ := row3_cells hm1.out.2.2
      go_enter Try.func12, Try.ntmps12
      go_wp2_with fail
      exact bodyPost_ret (v := .tuple #[.agg #[.int .i64 0, .int .i64 0, .int .i64 0], .bool false]) (by simp [results, Try.results12, go_sem, e0, e1, e2]) rfl (HK.out _ hm1.out.1)
    · have hd0 : decide (n < 0) = false := decide_eq_false hn
      have hd1 : decide (T0 ≤ n) = true := decide_eq_true (by omega)
      clear h
      go_enter Try.func12, Try.ntmps12
      go_wp2_with fail
      refine (HA.out _).mono ?_
      rintro e w1 ⟨rfl, hb⟩
      have hm1 := Lib.hid ((HM.out _ _).call hb)
      clear hb HM
      obtain ⟨⟨e0, e1, e2⟩, f0, f1, f2⟩ := row3_cells hm1.out.2.2
      go_wp2_with fail
      refine ret_set3 e0 e1 e2 fun Y g0 g1 g2 hY => ?_
      exact bodyPost_ret (v := .tuple #[.agg #[.int .i64 0, .int .i64 0, .int .i64 0], .bool false]) (by simp [results, Try.results12, go_sem, g0, g1, g2]) rfl (HK.out _ (below_set hm1.out.1 (by omega) hY))

/-- What stands: the argument's box, and the block in which the answer is made. -/
def NS (W : World) (x y z : Int) (X : World) : Prop := Below W.heap.size W X ∧ MBox W.heap.size x y z X ∧ Row3 (W.heap.size + 1) 0 0 0 X
theorem NS.call {W X X' : World} {x y z : Int} (h : NS W x y z X) (hb : Below X.heap.size X X') : NS W x y z X' := ⟨below_call h.1 hb, h.2.1.call hb, h.2.2.call hb⟩
theorem ns_new (x y z : Int) (W : World) (T T' : TypeId) : NS W x y z ((W.alloc (.cells #[.int .i64 x, .int .i64 y, .int .i64 z] T)).alloc (.cells #[.int .i64 0, .int .i64 0, .int .i64 0] T')) :=
  ⟨below_two _ _ _, mbox_two x y z W T _, by have := row3_new 0 0 0 (W.alloc (.cells #[.int .i64 x, .int .i64 y, .int .i64 z] T)) T'; simpa using this⟩

set_option maxRecDepth 100000 in
set_option maxHeartbeats 2000000 in
theorem nextMazeI_any (x y z : Int) (W : World) :
    Calls Try.prog 13 #[.agg #[.int .i64 x, .int .i64 y, .int .i64 z]] W (MzB x y (nmO x y z) (nmB x y z) W) := by
  have HNo := Lib.hid (fun X => numberOfI_any x y z X)
  have HM := Lib.hid (fun T T' => ns_new x y z W T T')
  have hbd := nb_bd x y z
  have q1 : IntKind.i64.wrap (nuZ x y z + 1) = nuZ x y z + 1 := IntWalk.i64_in _ (by omega)
  by_cases h0 : 0 ≤ nuZ x y z
  · have hd : decide (nuZ x y z < 0) = false := decide_eq_false (by omega)
    have HAt := Lib.hid (fun X => mazeAtI_any x y (nuZ x y z + 1) X)
    cases hb' : atB x y (nuZ x y z + 1) with
    | true =>
      obtain ⟨e1, e2⟩ := at_ok hb'
      obtain ⟨e3, e4⟩ := nm_yes h0 hb'
      rw [hb', e1, e2] at HAt
      have HK := @Lib.hid _ (fun w' b => @mzb4 x x y y (atO x y (nuZ x y z + 1)) (nmO x y z) true (nmB x y z) W w' rfl rfl e4.symm e3.symm b)
      clear hb' e1 e2 e3 e4
      generalize atO x y (nuZ x y z + 1) = z1 at *
      generalize nmO x y z = z2 at *
      generalize nmB x y z = b2 at *
      generalize nuZ x y z = N at *
      go_enter Try.func13, Try.ntmps13
      go_wp2_with fail
      refine (HNo.out _).mono ?_
      rintro e w1 ⟨rfl, hb⟩
      have hm1 := Lib.hid ((HM.out _ _).call hb)
      clear hb HM
      obtain ⟨c0, c1, c2⟩ := hm1.out.2.1.1
      go_wp2_with fail
      refine (HAt.out _).mono ?_
      rintro e w2 ⟨rfl, hb⟩
      have hm2 := Lib.hid (hm1.out.call hb)
      clear hb hm1 c0 c1 c2
      have hm3 := Lib.hid (hm2.out.call (below_box _ (.cells #[.int .i64 x, .int .i64 y, .int .i64 z1] 27)))
      obtain ⟨⟨e0, e1, e2⟩, f0, f1, f2⟩ := row3_cells hm3.out.2.2
      go_wp2_with fail
      refine ret_set3 e0 e1 e2 fun Y g0 g1 g2 hY => ?_
      exact bodyPost_ret (v := .tuple #[.agg #[.int .i64 x, .int .i64 y, .int .i64 z1], .bool true]) (by simp [results, Try.results13, go_sem, g0, g1, g2]) rfl (HK.out _ (below_set hm3.out.1 (by omega) hY))
    | false =>
      obtain ⟨e3, e4⟩ := nm_no (.inr hb')
      rw [hb'] at HAt
      have HK := @Lib.hid _ (fun w' b => @mzb4 x x y y z (nmO x y z) false (nmB x y z) W w' rfl rfl e4.symm e3.symm b)
      clear hb' e3 e4
      generalize atX x y (nuZ x y z + 1) = x1 at *
      generalize atY x y (nuZ x y z + 1) = y1 at *
      generalize atO x y (nuZ x y z + 1) = z1 at *
      generalize nmO x y z = z2 at *
      generalize nmB x y z = b2 at *
      generalize nuZ x y z = N at *
      go_enter Try.func13, Try.ntmps13
      go_wp2_with fail
      refine (HNo.out _).mono ?_
      rintro e w1 ⟨rfl, hb⟩
      have hm1 := Lib.hid ((HM.out _ _).call hb)
      clear hb HM
      obtain ⟨c0, c1, c2⟩ := hm1.out.2.1.1
      go_wp2_with fail
      refine (HAt.out _).mono ?_
      rintro e w2 ⟨rfl, hb⟩
      have hm2 := Lib.hid (hm1.out.call hb)
      clear hb hm1 c0 c1 c2
      have hm3 := Lib.hid (hm2.out.call (below_box _ (.cells #[.int .i64 x1, .int .i64 y1, .int .i64 z1] 27)))
      obtain ⟨⟨e0, e1, e2⟩, f0, f1, f2⟩ := row3_cells hm3.out.2.2
      obtain ⟨d0, d1, d2⟩ := hm3.out.2.1.1
      go_wp2_with fail
      refine ret_set3 e0 e1 e2 fun Y g0 g1 g2 hY => ?_
      exact bodyPost_ret (v := .tuple #[.agg #[.int .i64 x, .int .i64 y, .int .i64 z], .bool false]) (by simp [results, Try.results13, go_sem, g0, g1, g2]) rfl (HK.out _ (below_set hm3.out.1 (by omega) hY))
  · have hd : decide (nuZ x y z < 0) = true := decide_eq_true (by omega)
    obtain ⟨e3, e4⟩ := nm_no (.inl h0)
    have HK := @Lib.hid _ (fun w' b => @mzb4 x x y y z (nmO x y z) false (nmB x y z) W w' rfl rfl e4.symm e3.symm b)
    clear h0 e3 e4
    generalize nmO x y z = z2 at *
    generalize nmB x y z = b2 at *
    generalize nuZ x y z = N at *
    go_enter Try.func13, Try.ntmps13
    go_wp2_with fail
    refine (HNo.out _).mono ?_
    rintro e w1 ⟨rfl, hb⟩
    have hm1 := Lib.hid ((HM.out _ _).call hb)
    clear hb HM
    obtain ⟨c0, c1, c2⟩ := hm1.out.2.1.1
    obtain ⟨⟨e0, e1, e2⟩, f0, f1, f2⟩ := row3_cells hm1.out.2.2
    go_wp2_with fail
    refine ret_set3 e0 e1 e2 fun Y g0 g1 g2 hY => ?_
    exact bodyPost_ret (v := .tuple #[.agg #[.int .i64 x, .int .i64 y, .int .i64 z], .bool false]) (by simp [results, Try.results13, go_sem, g0, g1, g2]) rfl (HK.out _ (below_set hm1.out.1 (by omega) hY))
end Go.Proofs.Ytnfnandpcjgmmaa.nbrI
