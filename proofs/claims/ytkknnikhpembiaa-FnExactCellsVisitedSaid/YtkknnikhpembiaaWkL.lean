/- Walkers of the laws: opened, copied, compared; lists of walkers: compared, marked, found again. -/
import Derived.Test.YtkknnikhpembiaaListW
import Derived.Test.YtkknnikhpembiaaBase
import Derived.Deep.CutRange
namespace Go.Proofs.Ytkknnikhpembiaa.wkL
open Go.ChangeShapes Go.WideShapes Go.ChangeAt Go.RowKit Go.Joins
open draw lawKit gridC gridE mazeC mazeM intsP intK intA listK listW
set_option linter.unusedVariables false

theorem cellsWalker : Try.prog.cellsOf 44 = 2 := by kernel_rfl

section
variable {H : Type} {enc : TypeId × Value → H}
set_option maxRecDepth 100000 in
theorem open_walker {W : World} {base : Nat} {v : Value} {d : DataW H} {ps : List MemPlace}
    (hval : Value.okWide Try.prog W .any base 44 v) (h : DataW.Trod enc Try.prog W 0 (fun _ => true) true 44 v d ps) :
    ∃ x y : Int, v = .agg #[.int .i64 x, .int .i64 y] ∧ d = .agg [.lit (.int .i64 x), .lit (.int .i64 y)] ∧ ps = [] ∧ (Lit.int .i64 x).wf = true ∧ (Lit.int .i64 y).wf = true := by
  obtain ⟨c0, c1, y0, y1, m, rfl, rfl, rfl, hy0, hy1⟩ := open_agg2 Try.underlying44 (by kernel_rfl) cellsWalker hval h
  obtain ⟨a, e0, rfl, wa⟩ := DataW.trod_int Try.underlying3 hy0
  obtain ⟨b, e1, rfl, wb⟩ := DataW.trod_int Try.underlying3 hy1
  simp at e0 e1
  subst e0 e1
  exact ⟨a, b, rfl, rfl, rfl, wa, wb⟩
set_option maxRecDepth 100000 in
theorem shut_walker {W : World} {b : Nat} {sp : Nat → Bool} {hd : Bool} {x y : Int} (wx : (Lit.int .i64 x).wf = true) (wy : (Lit.int .i64 y).wf = true) :
    DataW.Trod enc Try.prog W b sp hd 44 (.agg #[.int .i64 x, .int .i64 y]) (.agg [.lit (.int .i64 x), .lit (.int .i64 y)]) [] :=
  shut_agg2 (y0 := (.lit (.int .i64 x), [])) (y1 := (.lit (.int .i64 y), [])) Try.underlying44 (by kernel_rfl) cellsWalker ⟨1, by simp [DataW.trod, Try.underlying3, wx]⟩ ⟨1, by simp [DataW.trod, Try.underlying3, wy]⟩
end

set_option maxRecDepth 100000 in
theorem toWalker_any (x y : Int) (W : World) :
    Calls Try.prog 21 #[.agg #[.int .i64 x, .int .i64 y]] W (Wk x y W) := by
  have HK := @Lib.hid _ (fun w' b => @wk_mk x y x y W w' rfl rfl b)
  go_enter Try.func21, Try.ntmps21
  go_wp2
  refine bodyPost_ret (v := .agg #[.int .i64 x, .int .i64 y]) (by simp [results, Try.results21, go_sem]) rfl (HK.out _ ?_)
  repeat (first | exact Below.refl _ _ | refine Below.alloc ?_ (by simp; try omega) _ | refine Below.setCell ?_ (by simp; try omega) _)
theorem draw_off {w w' : World} (hb : Below w.drew.heap.size w.drew w') : Below w.heap.size w w' := ⟨hb.os, hb.tape, hb.output, hb.size, hb.block⟩
/-- A maze and a walker come in as arguments. -/
theorem two_boxes (x y z c f : Int) (W : World) (T1 T2 : TypeId) : MBox W.heap.size x y z ((W.alloc (.cells #[.int .i64 x, .int .i64 y, .int .i64 z] T1)).alloc (.cells #[.int .i64 c, .int .i64 f] T2)) ∧
    Box (W.heap.size + 1) c f ((W.alloc (.cells #[.int .i64 x, .int .i64 y, .int .i64 z] T1)).alloc (.cells #[.int .i64 c, .int .i64 f] T2)) ∧
    Below W.heap.size W ((W.alloc (.cells #[.int .i64 x, .int .i64 y, .int .i64 z] T1)).alloc (.cells #[.int .i64 c, .int .i64 f] T2)) := by
  refine ⟨(mbox_new x y z W T1).call (below_box _ _), ?_, below_two _ _ _⟩
  have := box_new c f (W.alloc (.cells #[.int .i64 x, .int .i64 y, .int .i64 z] T1)) T2
  simpa using this
theorem eqWalker_same (x y : Int) (W : World) :
    Calls Try.prog 24 #[.agg #[.int .i64 x, .int .i64 y], .agg #[.int .i64 x, .int .i64 y]] W (Bl true W) := by
  have HK := @Lib.hid _ (fun w' b => @bl_mk true true W w' rfl b)
  have HB := Lib.hid (below_two W)
  have ex : (x != x) = false := by simp
  have ey : (y != y) = false := by simp
  go_enter Try.func24, Try.ntmps24
  go_wp2_with fail
  go_ret
  exact HK.out _ (HB.out _ _)

set_option maxRecDepth 100000 in
/-- Two lists of the same walkers are equal. -/
theorem eq_b (va vb : Value) (ba bb n : Nat) (l : List (Int × Int)) (w : World) (hx : l.length = n) (hn : n ≤ 900000)
    (ha : w.ownsRow ba 29 2 va n (wcl l)) (hb : w.ownsRow bb 29 2 vb n (wcl l)) :
    Calls Try.prog 26 #[va, vb] w fun e w' => e = .returned (.bool true) ∧ Below w.heap.size w w' := by
  obtain ⟨Aa, ca, rfl⟩ := intsP.own_form ha
  obtain ⟨Ab, cb, rfl⟩ := intsP.own_form hb
  have HR := Lib.hid (Below.refl w.heap.size w)
  by_cases h0 : n = 0
  · subst h0
    clear ha hb
    go_enter Try.func26, Try.ntmps26
    go_wp2_with fail
    go_loopw [5] (fun u5 wr => u5 = .int .i64 0 ∧ wr = w) (fun _ _ => 0)
    case atStart => exact ⟨rfl, rfl⟩
    case round =>
      obtain ⟨rfl, rfl⟩ := hrel
      go_wp2_with fail
      go_ret
      exact ⟨rfl, HR.out⟩
  · obtain ⟨ga, ca', ea, _, hga⟩ := own_some ha (by omega)
    obtain ⟨gb, cb', eb, _, hgb⟩ := own_some hb (by omega)
    injection ea with ea1 _ ea2
    injection eb with eb1 _ eb2
    subst ea1 ea2 eb1 eb2
    have HA := Lib.hid (fun k s (hk : l[k]? = some s) => wl_cell ha hk)
    have HB := Lib.hid (fun k s (hk : l[k]? = some s) => wl_cell hb hk)
    have HE := Lib.hid (fun a b X => eqWalker_same a b X)
    have Hx := Lib.hid hx
    have hnn : ((n : Int) != (n : Int)) = false := by simp
    clear ha hb hx
    go_enter Try.func26, Try.ntmps26
    go_wp2_with fail
    go_loopw [5] (fun u5 wr => ∃ k : Nat, k ≤ n ∧ u5 = .int .i64 k ∧ Below w.heap.size w wr) (fun u5 _ => n - (intOf u5).toNat)
    case atStart => exact ⟨0, Nat.zero_le _, rfl, HR.out⟩
    case round =>
      obtain ⟨k, hk, rfl, hbl0⟩ := hrel
      have hbl := Lib.hid hbl0
      clear hbl0
      by_cases hlt : k < n
      · obtain ⟨s, hs⟩ : ∃ s, l[k]? = some s := by
          have hkl : k < l.length := by have := Hx.out; omega
          exact ⟨l[k], List.getElem?_eq_getElem hkl⟩
        have HA1 := HA.out k s hs
        have HB1 := HB.out k s hs
        have c1 : wr.cell? ⟨ga, k * 2, none⟩ = some (.int .i64 s.1) := (hbl.out.cell (p := ⟨ga, k * 2, none⟩) hga).trans HA1.1
        have c2 : wr.cell? ⟨ga, k * 2 + 1, none⟩ = some (.int .i64 s.2) := (hbl.out.cell (p := ⟨ga, k * 2 + 1, none⟩) hga).trans HA1.2
        have d1 : wr.cell? ⟨gb, k * 2, none⟩ = some (.int .i64 s.1) := (hbl.out.cell (p := ⟨gb, k * 2, none⟩) hgb).trans HB1.1
        have d2 : wr.cell? ⟨gb, k * 2 + 1, none⟩ = some (.int .i64 s.2) := (hbl.out.cell (p := ⟨gb, k * 2 + 1, none⟩) hgb).trans HB1.2
        have hk0 : (0 : Int) ≤ (k : Int) := Int.natCast_nonneg _
        have hk1 : (k : Int) < (n : Int) := by omega
        have HE1 := Lib.hid (fun X => HE.out s.1 s.2 X)
        have hgr : ga < wr.drew.heap.size := Nat.lt_of_lt_of_le hga hbl.out.size
        have hgr2 : gb < wr.drew.heap.size := Nat.lt_of_lt_of_le hgb hbl.out.size
        clear HA1 HB1 hs
        generalize s.1 = sa at *
        generalize s.2 = sb at *
        go_wp2_with fail
        try simp only [List.cons_append, List.nil_append, List.append_eq]
        refine wp_region_held_drew (S := (fun w' => w'.cell? ⟨ga, k * 2, none⟩ = some (.int .i64 sa) ∧ w'.cell? ⟨ga, k * 2 + 1, none⟩ = some (.int .i64 sb) ∧ w'.cell? ⟨gb, k * 2, none⟩ = some (.int .i64 sa) ∧ w'.cell? ⟨gb, k * 2 + 1, none⟩ = some (.int .i64 sb))) (by kernel_rfl) ?_ (fun hHeld0 => ?_)
        · (try dsimp only); (first | go_keep | exact ⟨(hb1.cell (p := ⟨ga, k * 2, none⟩) hgr).trans c1, (hb1.cell (p := ⟨ga, k * 2 + 1, none⟩) hgr).trans c2, (hb1.cell (p := ⟨gb, k * 2, none⟩) hgr2).trans d1, (hb1.cell (p := ⟨gb, k * 2 + 1, none⟩) hgr2).trans d2⟩)
        refine wpAnyH_take (i := 0) (oi := { dst := some 17, op := Go.Op.move (Go.Operand.tmp 0), type := 39, pos := "exact.go:247", after := #[], guard := none }) (v := ?_) rfl (by kernel_rfl) (by kernel_rfl) (by kernel_rfl) (fun _ _ _ h => h) (Or.inl ⟨by rfl, ?_⟩) (by assumption) ?_
        rotate_left
        · (intro w hSw; (try dsimp only at hSw); go_simp; try with_reducible rfl)
        try simp only [Act.put, List.setIfInBounds_toArray, List.set_cons_zero, List.set_cons_succ]
        refine wpAnyH_take (i := 1) (oi := { dst := some 18, op := Go.Op.move (Go.Operand.tmp 5), type := 3, pos := "exact.go:247", after := #[], guard := none }) (v := ?_) rfl (by kernel_rfl) (by kernel_rfl) (by kernel_rfl) (fun _ _ _ h => h) (Or.inl ⟨by rfl, ?_⟩) (by assumption) ?_
        rotate_left
        · (intro w hSw; (try dsimp only at hSw); go_simp; try with_reducible rfl)
        try simp only [Act.put, List.setIfInBounds_toArray, List.set_cons_zero, List.set_cons_succ]
        refine wpAnyH_take (i := 2) (oi := { dst := some 19, op := Go.Op.indexAddr 39 (Go.Operand.tmp 17) (Go.Operand.tmp 18), type := 0, pos := "exact.go:247", after := #[{ on := 0, ground := Go.Ground.data }, { on := 1, ground := Go.Ground.data }], guard := none }) (v := ?_) rfl (by kernel_rfl) (by kernel_rfl) (by kernel_rfl) (fun _ _ _ h => h) (Or.inl ⟨by rfl, ?_⟩) (by assumption) ?_
        rotate_left
        · (intro w hSw; (try dsimp only at hSw); go_simp; try with_reducible rfl)
        try simp only [Act.put, List.setIfInBounds_toArray, List.set_cons_zero, List.set_cons_succ]
        refine wpAnyH_take (i := 3) (oi := { dst := some 20, op := Go.Op.load 29 (Go.Operand.tmp 19), type := 29, pos := "exact.go:247", after := #[{ on := 2, ground := Go.Ground.data }], guard := none }) (v := ?_) rfl (by kernel_rfl) (by kernel_rfl) (by kernel_rfl) (fun _ _ _ h => h) (Or.inl ⟨by rfl, ?_⟩) (by assumption) ?_
        rotate_left
        · (intro w hSw; (try dsimp only at hSw); go_simp; try with_reducible rfl)
        try simp only [Act.put, List.setIfInBounds_toArray, List.set_cons_zero, List.set_cons_succ]
        refine wpAnyH_take (i := 4) (oi := { dst := some 21, op := Go.Op.move (Go.Operand.tmp 1), type := 39, pos := "exact.go:247", after := #[], guard := none }) (v := ?_) rfl (by kernel_rfl) (by kernel_rfl) (by kernel_rfl) (fun _ _ _ h => h) (Or.inl ⟨by rfl, ?_⟩) (by assumption) ?_
        rotate_left
        · (intro w hSw; (try dsimp only at hSw); go_simp; try with_reducible rfl)
        try simp only [Act.put, List.setIfInBounds_toArray, List.set_cons_zero, List.set_cons_succ]
        refine wpAnyH_take (i := 5) (oi := { dst := some 22, op := Go.Op.move (Go.Operand.tmp 5), type := 3, pos := "exact.go:247", after := #[], guard := none }) (v := ?_) rfl (by kernel_rfl) (by kernel_rfl) (by kernel_rfl) (fun _ _ _ h => h) (Or.inl ⟨by rfl, ?_⟩) (by assumption) ?_
        rotate_left
        · (intro w hSw; (try dsimp only at hSw); go_simp; try with_reducible rfl)
        try simp only [Act.put, List.setIfInBounds_toArray, List.set_cons_zero, List.set_cons_succ]
        refine wpAnyH_take (i := 6) (oi := { dst := some 23, op := Go.Op.indexAddr 39 (Go.Operand.tmp 21) (Go.Operand.tmp 22), type := 0, pos := "exact.go:247", after := #[{ on := 4, ground := Go.Ground.data }, { on := 5, ground := Go.Ground.data }], guard := none }) (v := ?_) rfl (by kernel_rfl) (by kernel_rfl) (by kernel_rfl) (fun _ _ _ h => h) (Or.inl ⟨by rfl, ?_⟩) (by assumption) ?_
        rotate_left
        · (intro w hSw; (try dsimp only at hSw); go_simp; try with_reducible rfl)
        try simp only [Act.put, List.setIfInBounds_toArray, List.set_cons_zero, List.set_cons_succ]
        refine wpAnyH_take (i := 7) (oi := { dst := some 24, op := Go.Op.load 29 (Go.Operand.tmp 23), type := 29, pos := "exact.go:247", after := #[{ on := 6, ground := Go.Ground.data }], guard := none }) (v := ?_) rfl (by kernel_rfl) (by kernel_rfl) (by kernel_rfl) (fun _ _ _ h => h) (Or.inl ⟨by rfl, ?_⟩) (by assumption) ?_
        rotate_left
        · (intro w hSw; (try dsimp only at hSw); go_simp; try with_reducible rfl)
        try simp only [Act.put, List.setIfInBounds_toArray, List.set_cons_zero, List.set_cons_succ]
        refine wpAnyH_ready (rs := [8]) (by kernel_rfl) (by simp) ?_
        refine AllReadyH.cons (o := { dst := some 25, op := Go.Op.call { callee := Go.Callee.value (Go.Operand.func 24), args := #[Go.Operand.tmp 20, Go.Operand.tmp 24], argTypes := #[29, 29] }, type := 4, pos := "exact.go:247", after := #[{ on := 3, ground := Go.Ground.data }, { on := 7, ground := Go.Ground.data }], guard := none }) rfl (fun K8 hK8 => ?_) AllReadyH.nil
        go_simp
        (refine (HE1.out _).mono ?_; rintro e v1 ⟨rfl, hb1⟩)
        go_wp2_with fail
        refine hK8.out _ _ ?_ (fun hHeld1 => ?_)
        · (try dsimp only); (first | go_keep | exact ⟨(hb1.cell (p := ⟨ga, k * 2, none⟩) hgr).trans c1, (hb1.cell (p := ⟨ga, k * 2 + 1, none⟩) hgr).trans c2, (hb1.cell (p := ⟨gb, k * 2, none⟩) hgr2).trans d1, (hb1.cell (p := ⟨gb, k * 2 + 1, none⟩) hgr2).trans d2⟩)
        clear hK8 K8 hHeld0
        try simp only [Act.put, List.setIfInBounds_toArray, List.set_cons_zero, List.set_cons_succ]
        refine wpAnyH_take (i := 9) (oi := { dst := some 26, op := Go.Op.unOp Go.UnOp.not 4 (Go.Operand.tmp 25), type := 4, pos := "exact.go:247", after := #[{ on := 8, ground := Go.Ground.data }], guard := none }) (v := ?_) rfl (by kernel_rfl) (by kernel_rfl) (by kernel_rfl) (fun _ _ _ h => h) (Or.inl ⟨by rfl, ?_⟩) (by assumption) ?_
        rotate_left
        · (intro w hSw; (try dsimp only at hSw); go_simp; try with_reducible rfl)
        try simp only [Act.put, List.setIfInBounds_toArray, List.set_cons_zero, List.set_cons_succ]
        refine wpAnyH_done (by kernel_rfl) ?_ _
        go_wp2_with fail
        go_roundw
        case rel => exact ⟨k + 1, by omega, by go_num, below_call (below_dr hbl.out) hb1⟩
        case measure => simp [intOf]; omega
      · go_wp2_with fail
        go_ret
        exact ⟨rfl, hbl.out⟩

set_option maxRecDepth 100000 in
/-- Marks are laid into a list of walkers. -/
theorem mark_one (v : Value) (base n : Nat) (m : Nat) (mi : Int) (xs : List Value) (w : World) (hmi : mi = (m : Int)) (hm : 0 < m) (hn : m + 2 * n ≤ 3000000) (hown : w.ownsRow base 29 2 v n xs) :
    Calls Try.prog 27 #[v, .int .i64 mi] w fun e w' => e = .returned (.int .i64 ((m + n * 2 : Nat) : Int)) ∧ w'.ownsRow base 29 2 v n (intK.marks m (n * 2)) ∧ w.grownBy w' v.ownBlock := by
  subst hmi
  have hxl : xs.length = n * 2 := hown.1
  by_cases h0 : n = 0
  · subst h0
    have hxs : xs = [] := List.eq_nil_of_length_eq_zero hxl
    subst hxs
    have HO := Lib.hid (show w.ownsRow base 29 2 v 0 (intK.marks m (0 * 2)) from hown)
    obtain ⟨A, c, rfl⟩ := intsP.own_form hown
    clear hown
    go_enter Try.func27, Try.ntmps27
    go_wp2_with fail
    go_loopw [1, 5] (fun u1 u5 wr => u1 = .int .i64 (m : Int) ∧ u5 = .int .i64 0 ∧ wr = w) (fun _ _ _ => 0)
    case atStart => exact ⟨rfl, rfl, rfl⟩
    case round =>
      obtain ⟨rfl, rfl, rfl⟩ := hrel
      go_wp2_with fail
      go_ret
      exact ⟨rfl, HO.out, grown_refl _ _⟩
  · obtain ⟨g, c, rfl, hg, hgs⟩ := own_some hown (by omega)
    have HO := Lib.hid (show w.ownsRow base 29 2 (.slice (some ⟨g, 0, none⟩) n c) n (intK.part m (0 * 2) xs) by rw [Nat.zero_mul, intK.part_zero]; exact hown)
    have HR := Lib.hid (grown_refl w (some g))
    clear hown
    go_enter Try.func27, Try.ntmps27
    go_wp2_with fail
    go_loopw [1, 5] (fun u1 u5 wr => ∃ j : Nat, j ≤ n ∧ u5 = .int .i64 j ∧ u1 = .int .i64 ((m + j * 2 : Nat) : Int) ∧ wr.ownsRow base 29 2 (.slice (some ⟨g, 0, none⟩) n c) n (intK.part m (j * 2) xs) ∧ w.grownBy wr (some g)) (fun _ u5 _ => n - (intOf u5).toNat)
    case atStart => exact ⟨0, Nat.zero_le _, rfl, by simp, HO.out, HR.out⟩
    case round =>
      obtain ⟨j, hj, rfl, rfl, hown, hb⟩ := hrel
      clear HO HR
      by_cases hlt : j < n
      · have hpl : (intK.part m (j * 2) xs).length = n * 2 := hown.1
        have h1 := (hown.stored (j * 2) (.int .i64 ((m + j * 2 : Nat) : Int))).1
        rw [intK.part_set m (j * 2) xs (by omega)] at h1
        have h2 := (h1.stored (j * 2 + 1) (.int .i64 ((m + (j * 2 + 1) : Nat) : Int))).1
        rw [intK.part_set m (j * 2 + 1) xs (by omega)] at h2
        have HG2 := Lib.hid (grown_set (j := j * 2 + 1) (grown_set (j := j * 2) hb (.int .i64 ((m + j * 2 : Nat) : Int))) (.int .i64 ((m + (j * 2 + 1) : Nat) : Int)))
        have hk0 : (0 : Int) ≤ (j : Int) := Int.natCast_nonneg _
        have hk1 : (j : Int) < (n : Int) := by omega
        have hcell : ∃ old, wr.cell? ⟨g, j * 2, none⟩ = some old := ⟨(intK.part m (j * 2) xs)[j * 2]'(by omega), by rw [hown.cellAt (j * 2) (by omega), List.getElem?_eq_getElem (by omega)]⟩
        have hcell2 : ∃ old, wr.cell? ⟨g, j * 2 + 1, none⟩ = some old := ⟨(intK.part m (j * 2) xs)[j * 2 + 1]'(by omega), by rw [hown.cellAt (j * 2 + 1) (by omega), List.getElem?_eq_getElem (by omega)]⟩
        have hfz : wr.frozen? ⟨g, j * 2, none⟩ = false := hown.frozenAt (j * 2)
        have hfz2 : wr.frozen? ⟨g, j * 2 + 1, none⟩ = false := hown.frozenAt (j * 2 + 1)
        obtain ⟨old, hcell⟩ := hcell
        obtain ⟨old2, hcell2⟩ := hcell2
        have H2 := Lib.hid h2
        clear hpl hown h1 h2
        go_wp2_with fail
        go_roundw
        case rel =>
          have e1 : (.int .i64 ((m : Int) + (j : Int) * 2) : Value) = .int .i64 ((m + j * 2 : Nat) : Int) := congrArg (Value.int .i64) (by omega)
          have e2 : (.int .i64 ((m : Int) + (j : Int) * 2 + 1) : Value) = .int .i64 ((m + (j * 2 + 1) : Nat) : Int) := congrArg (Value.int .i64) (by omega)
          rw [e1, e2]
          refine ⟨j + 1, by omega, by go_num, congrArg (Value.int .i64) (by omega), ?_, HG2.out⟩
          rw [show (j + 1) * 2 = j * 2 + 1 + 1 by omega]
          exact H2.out
        case measure => simp [intOf]; omega
      · obtain rfl : j = n := by omega
        rw [intK.part_all m (j * 2) xs hxl] at hown
        go_wp2_with fail
        go_ret
        exact ⟨rfl, hown, hb⟩

set_option maxRecDepth 100000 in
/-- Marks are found again. -/
theorem held_any (v : Value) (base n : Nat) (m : Nat) (mi : Int) (w : World) (hmi : mi = (m : Int)) (hm : 0 < m) (hn : m + 2 * n ≤ 3000000) (hown : w.ownsRow base 29 2 v n (intK.marks m (n * 2))) :
    Calls Try.prog 28 #[v, .int .i64 mi] w fun e w' => e = .returned (.int .i64 ((m + n * 2 : Nat) : Int)) ∧ Below w.heap.size w w' := by
  subst hmi
  by_cases h0 : n = 0
  · subst h0
    obtain ⟨A, c, rfl⟩ := intsP.own_form hown
    clear hown
    go_enter Try.func28, Try.ntmps28
    go_wp2_with fail
    go_loopw [1, 5] (fun u1 u5 wr => u1 = .int .i64 (m : Int) ∧ u5 = .int .i64 0 ∧ wr = w) (fun _ _ _ => 0)
    case atStart => exact ⟨rfl, rfl, rfl⟩
    case round =>
      obtain ⟨rfl, rfl, rfl⟩ := hrel
      go_wp2_with fail
      go_ret
      exact ⟨rfl, Below.refl _ _⟩
  · obtain ⟨g, c, rfl, hg, hgs⟩ := own_some hown (by omega)
    have HC := Lib.hid (fun j (hj : j < n) => show w.cell? ⟨g, j * 2, none⟩ = some (.int .i64 ((m : Int) + (j : Int) * 2)) ∧ w.cell? ⟨g, j * 2 + 1, none⟩ = some (.int .i64 ((m : Int) + (j : Int) * 2 + 1)) by
      rw [hown.cellAt (j * 2) (by omega), hown.cellAt (j * 2 + 1) (by omega), intK.marks_at m (n * 2) (j * 2) (by omega), intK.marks_at m (n * 2) (j * 2 + 1) (by omega)]
      exact ⟨congrArg (fun z => some (Value.int .i64 z)) (by omega), congrArg (fun z => some (Value.int .i64 z)) (by omega)⟩)
    clear hown
    go_enter Try.func28, Try.ntmps28
    go_wp2_with fail
    go_loopw [1, 5] (fun u1 u5 wr => ∃ j : Nat, j ≤ n ∧ u5 = .int .i64 j ∧ u1 = .int .i64 ((m + j * 2 : Nat) : Int) ∧ wr = w) (fun _ u5 _ => n - (intOf u5).toNat)
    case atStart => exact ⟨0, Nat.zero_le _, rfl, by simp, rfl⟩
    case round =>
      obtain ⟨j, hj, rfl, rfl, rfl⟩ := hrel
      by_cases hlt : j < n
      · have hk0 : (0 : Int) ≤ (j : Int) := Int.natCast_nonneg _
        have hk1 : (j : Int) < (n : Int) := by omega
        obtain ⟨hcell, hcell2⟩ := HC.out j hlt
        have hne : ((m : Int) + (j : Int) * 2 != (m : Int) + (j : Int) * 2) = false := by simp
        have hne2 : ((m : Int) + (j : Int) * 2 + 1 != (m : Int) + (j : Int) * 2 + 1) = false := by simp
        go_wp2_with fail
        go_roundw
        case rel => exact ⟨j + 1, by omega, by go_num, congrArg (Value.int .i64) (by omega), trivial⟩
        case measure => simp [intOf]; omega
      · obtain rfl : j = n := by omega
        go_wp2_with fail
        go_ret
        exact ⟨rfl, Below.refl _ _⟩

/-! ### a region that answers a struct of two numbers over a maze and a walker -/
/-- An elder answer that stays. -/
def RO (q : Option (Nat × Int × Int)) (X : World) : Prop := ∀ b, q = some b → Row2 b.1 b.2.1 b.2.2 X
def TB (W : World) (x y z c f : Int) (q : Option (Nat × Int × Int)) (X : World) : Prop := Below W.heap.size W X ∧ MBox W.heap.size x y z X ∧ Box (W.heap.size + 1) c f X ∧ RO q X
theorem TB.call {W X X' : World} {x y z c f : Int} {q : Option (Nat × Int × Int)} (h : TB W x y z c f q X) (hb : Below X.heap.size X X') : TB W x y z c f q X' := ⟨below_call h.1 hb, h.2.1.call hb, h.2.2.1.call hb, fun b e => (h.2.2.2 b e).call hb⟩
theorem TB.dr {W X : World} {x y z c f : Int} {q : Option (Nat × Int × Int)} (h : TB W x y z c f q X) : TB W x y z c f q X.drew := h.call ⟨rfl, rfl, rfl, Nat.le_refl _, fun _ _ => rfl⟩
/-- .. and the answer's block is there. -/
def TZ (W : World) (x y z c f : Int) (q : Option (Nat × Int × Int)) (B : Nat) (a b : Int) (X : World) : Prop := TB W x y z c f q X ∧ Row2 B a b X ∧ W.heap.size + 1 < B ∧ ∀ r, q = some r → r.1 < B
theorem TB.id {W X : World} {x y z c f : Int} {q : Option (Nat × Int × Int)} (h : TB W x y z c f q X) : TB W x y z c f q X := h
theorem TZ.tb {W X : World} {x y z c f a b : Int} {B : Nat} {q : Option (Nat × Int × Int)} (h : TZ W x y z c f q B a b X) : TB W x y z c f q X := h.1
theorem TZ.row {W X : World} {x y z c f a b : Int} {B : Nat} {q : Option (Nat × Int × Int)} (h : TZ W x y z c f q B a b X) : (X.cell? ⟨B, 0, none⟩ = some (.int .i64 a) ∧ X.cell? ⟨B, 1, none⟩ = some (.int .i64 b)) ∧ X.frozen? ⟨B, 0, none⟩ = false ∧ X.frozen? ⟨B, 1, none⟩ = false := row2_cells h.2.1
theorem TZ.call {W X X' : World} {x y z c f a b : Int} {B : Nat} {q : Option (Nat × Int × Int)} (h : TZ W x y z c f q B a b X) (hb : Below X.heap.size X X') : TZ W x y z c f q B a b X' := ⟨h.1.call hb, h.2.1.call hb, h.2.2⟩
theorem TZ.new {W X : World} {x y z c f : Int} {q : Option (Nat × Int × Int)} (h : TB W x y z c f q X) (T : TypeId) : TZ W x y z c f q X.heap.size 0 0 (X.alloc (.cells #[.int .i64 0, .int .i64 0] T)) :=
  ⟨h.call (below_box _ _), row2_new _ _ _ _, h.2.2.1.2, fun r e => row2_lt (h.2.2.2 r e)⟩
theorem TZ.made {W X : World} {x y z c f a b : Int} {q : Option (Nat × Int × Int)} {T : TypeId} (h : TB W x y z c f q X) : TZ W x y z c f q X.heap.size a b (X.alloc (.cells #[.int .i64 a, .int .i64 b] T)) :=
  ⟨h.call (below_box _ _), row2_new _ _ _ _, h.2.2.1.2, fun r e => row2_lt (h.2.2.2 r e)⟩
theorem box_set {b : Nat} {x y : Int} {X : World} (h : Box b x y X) {p : Addr} (hne : p.block ≠ b) (u : Value) : Box b x y (X.setCell p u) := by
  obtain ⟨⟨c0, c1⟩, hl⟩ := h
  have n : ∀ k, p ≠ (⟨b, k, none⟩ : Addr) := fun k e => hne (by rw [e])
  exact ⟨⟨(World.cell?_setCell_other _ _ _ _ (n 0)).trans c0, (World.cell?_setCell_other _ _ _ _ (n 1)).trans c1⟩, by simpa [World.setCell] using hl⟩
theorem TZ.put {W X : World} {x y z c f a b : Int} {B : Nat} {q : Option (Nat × Int × Int)} (h : TZ W x y z c f q B a b X) (a' b' : Int) : TZ W x y z c f q B a' b' ((X.setCell ⟨B, 0, none⟩ (.int .i64 a')).setCell ⟨B, 1, none⟩ (.int .i64 b')) := by
  obtain ⟨⟨h1, h2, h3, h4⟩, h5, h6, h7⟩ := h
  refine ⟨⟨(h1.setCell (by simp; omega) _).setCell (by simp; omega) _, reachD.mbox_set (reachD.mbox_set h2 (by simp; omega) _) (by simp; omega) _, box_set (box_set h3 (by simp; omega) _) (by simp; omega) _, fun r e => ?_⟩, row2_set h5, h6, h7⟩
  have := h7 r e
  exact row2_far (row2_far (h4 r e) (by simp; omega) _) (by simp; omega) _
theorem TZ.keep {W X : World} {x y z c f a b : Int} {B : Nat} {q : Option (Nat × Int × Int)} (h : TZ W x y z c f q B a b X) : X.cell? ⟨W.heap.size, 0, none⟩ = some (.int .i64 x) ∧ X.cell? ⟨W.heap.size, 1, none⟩ = some (.int .i64 y) ∧ X.cell? ⟨W.heap.size, 2, none⟩ = some (.int .i64 z) ∧ X.cell? ⟨W.heap.size + 1, 0, none⟩ = some (.int .i64 c) ∧ X.cell? ⟨W.heap.size + 1, 1, none⟩ = some (.int .i64 f) :=
  ⟨h.1.2.1.1.1, h.1.2.1.1.2.1, h.1.2.1.1.2.2, h.1.2.2.1.1.1, h.1.2.2.1.1.2⟩
theorem TZ.newd {W X : World} {x y z c f : Int} {q : Option (Nat × Int × Int)} (h : TB W x y z c f q X) (T : TypeId) : TZ W x y z c f q X.heap.size 0 0 (X.drew.alloc (.cells #[.int .i64 0, .int .i64 0] T)) := TZ.new h.dr T
end Go.Proofs.Ytkknnikhpembiaa.wkL
