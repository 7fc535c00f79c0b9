/- Lists of mazes of the laws: compared, marked, found again. -/
import Derived.Test.YthgnhamokikhkaaCntZ
import Derived.Test.YthgnhamokikhkaaBase
import Derived.Test.YthgnhamokikhkaaMzB
namespace Go.Proofs.Ythgnhamokikhkaa.mzsL
open Go.ChangeShapes Go.WideShapes Go.ChangeAt Go.RowKit
open draw lawKit gridC gridE mazeC mazeM mazeR intsP intK intA listK listZ
set_option linter.unusedVariables false

section
open bitP mazeP mazeQ reachM forest cntL cntV cntW
theorem lt_len2 (x y : Int) (o : Nat) : ∀ k c need, (ltN x y o k c need).length ≤ 2 ^ pcN o k
  | k, c, 0 => by rw [lt_zero]; exact Nat.one_le_two_pow
  | 0, c, need + 1 => by rw [lt_none]; simp
  | k + 1, c, need + 1 => by
    rw [lt_next]
    have e : pcN o (k + 1) = pcN o k + bt o k := rfl
    split
    · simp
    · rw [List.length_append]
      have h1 := lt_len2 x y o k c (need + 1)
      split
      · rename_i hj
        have h2 := lt_len2 x y o k (c + 2 ^ k) need
        rw [e, hj.1, Nat.pow_succ]; omega
      · have : 2 ^ pcN o k ≤ 2 ^ pcN o (k + 1) := Nat.pow_le_pow_right (by decide) (by rw [e]; omega)
        simp; omega
/-- There are not many. -/
theorem lt_bd (x y z : Int) : (mzL x y (ltZ x y z)).length ≤ 900000 := by
  rw [mzL_len]
  by_cases h : OkM x y z ∧ cpZ x y z ≤ 12
  · obtain ⟨hk, o, rfl, ho⟩ := okm_of h.1
    have hp := h.2
    rw [perfP.cp_pc hk ho] at hp
    have h1 := lt_len2 x y o (gN x y) 0 (cN x y - 1)
    rw [lt_is hk ho] at h1
    unfold ltZ
    rw [if_pos h, Int.toNat_natCast]
    have : 2 ^ pcN o (gN x y) ≤ 2 ^ 12 := Nat.pow_le_pow_right (by decide) (by omega)
    omega
  · unfold ltZ
    rw [if_neg h]; simp
end

set_option maxRecDepth 100000 in
/-- Two lists of the same mazes are equal. -/
theorem eq_b (va vb : Value) (ba bb n : Nat) (l : List (Int × Int × Int)) (w : World) (hx : l.length = n) (hn : n ≤ 900000)
    (ha : w.ownsRow ba 27 3 va n (zcl l)) (hb : w.ownsRow bb 27 3 vb n (zcl l)) :
    Calls Try.prog 64 #[va, vb] w fun e w' => e = .returned (.bool true) ∧ Below w.heap.size w w' := by
  obtain ⟨Aa, ca, rfl⟩ := intsP.own_form ha
  obtain ⟨Ab, cb, rfl⟩ := intsP.own_form hb
  have HR := Lib.hid (Below.refl w.heap.size w)
  by_cases h0 : n = 0
  · subst h0
    clear ha hb
    go_enter Try.func64, Try.ntmps64
    go_wp2_with fail
    go_loopw [5] (fun u5 wr => u5 = .int .i64 0 ∧ wr = w) (fun _ _ => 0)
    case atStart => exact ⟨rfl, rfl⟩
    case round =>
      obtain ⟨rfl, rfl⟩ := hrel
      go_wp2_with fail
      go_ret
      exact ⟨rfl, HR.out⟩
  · obtain ⟨ga, ca', ea, _, hga⟩ := own_some ha (by omega)
    obtain ⟨gb, cb', eb, _, hgb⟩ := own_some hb (by omega)
    injection ea with ea1 _ ea2
    injection eb with eb1 _ eb2
    subst ea1 ea2 eb1 eb2
    have HA := Lib.hid (fun k s (hk : l[k]? = some s) => zl_cell ha hk)
    have HB := Lib.hid (fun k s (hk : l[k]? = some s) => zl_cell hb hk)
    have HE := Lib.hid (fun a b c X => mazeR.eqMaze_same a b c X)
    have Hx := Lib.hid hx
    have hnn : ((n : Int) != (n : Int)) = false := by simp
    clear ha hb hx
    go_enter Try.func64, Try.ntmps64
    go_wp2_with fail
    go_loopw [5] (fun u5 wr => ∃ k : Nat, k ≤ n ∧ u5 = .int .i64 k ∧ Below w.heap.size w wr) (fun u5 _ => n - (intOf u5).toNat)
    case atStart => exact ⟨0, Nat.zero_le _, rfl, HR.out⟩
    case round =>
      obtain ⟨k, hk, rfl, hbl0⟩ := hrel
      have hbl := Lib.hid hbl0
      clear hbl0
      by_cases hlt : k < n
      · obtain ⟨s, hs⟩ : ∃ s, l[k]? = some s := by
          have hkl : k < l.length := by have := Hx.out; omega
          exact ⟨l[k], List.getElem?_eq_getElem hkl⟩
        have HA1 := HA.out k s hs
        have HB1 := HB.out k s hs
        have c1 : wr.cell? ⟨ga, k * 3, none⟩ = some (.int .i64 s.1) := (hbl.out.cell (p := ⟨ga, k * 3, none⟩) hga).trans HA1.1
        have c2 : wr.cell? ⟨ga, k * 3 + 1, none⟩ = some (.int .i64 s.2.1) := (hbl.out.cell (p := ⟨ga, k * 3 + 1, none⟩) hga).trans HA1.2.1
        have c3 : wr.cell? ⟨ga, k * 3 + 2, none⟩ = some (.int .i64 s.2.2) := (hbl.out.cell (p := ⟨ga, k * 3 + 2, none⟩) hga).trans HA1.2.2
        have d1 : wr.cell? ⟨gb, k * 3, none⟩ = some (.int .i64 s.1) := (hbl.out.cell (p := ⟨gb, k * 3, none⟩) hgb).trans HB1.1
        have d2 : wr.cell? ⟨gb, k * 3 + 1, none⟩ = some (.int .i64 s.2.1) := (hbl.out.cell (p := ⟨gb, k * 3 + 1, none⟩) hgb).trans HB1.2.1
        have d3 : wr.cell? ⟨gb, k * 3 + 2, none⟩ = some (.int .i64 s.2.2) := (hbl.out.cell (p := ⟨gb, k * 3 + 2, none⟩) hgb).trans HB1.2.2
        have hk0 : (0 : Int) ≤ (k : Int) := Int.natCast_nonneg _
        have hk1 : (k : Int) < (n : Int) := by omega
        have HE1 := Lib.hid (fun X => HE.out s.1 s.2.1 s.2.2 X)
        have hgr : ga < wr.drew.heap.size := Nat.lt_of_lt_of_le hga hbl.out.size
        have hgr2 : gb < wr.drew.heap.size := Nat.lt_of_lt_of_le hgb hbl.out.size
        clear HA1 HB1 hs
        generalize s.1 = sa at *
        generalize s.2.1 = sb at *
        generalize s.2.2 = sc at *
        go_wp2_with fail
        try simp only [List.cons_append, List.nil_append, List.append_eq]
        refine wp_region_held_drew (S := (fun w' => w'.cell? ⟨ga, k * 3, none⟩ = some (.int .i64 sa) ∧ w'.cell? ⟨ga, k * 3 + 1, none⟩ = some (.int .i64 sb) ∧ w'.cell? ⟨ga, k * 3 + 2, none⟩ = some (.int .i64 sc) ∧ w'.cell? ⟨gb, k * 3, none⟩ = some (.int .i64 sa) ∧ w'.cell? ⟨gb, k * 3 + 1, none⟩ = some (.int .i64 sb) ∧ w'.cell? ⟨gb, k * 3 + 2, none⟩ = some (.int .i64 sc))) (by kernel_rfl) ?_ (fun hHeld0 => ?_)
        · (try dsimp only); (first | go_keep | exact ⟨(hb1.cell (p := ⟨ga, k * 3, none⟩) hgr).trans c1, (hb1.cell (p := ⟨ga, k * 3 + 1, none⟩) hgr).trans c2, (hb1.cell (p := ⟨ga, k * 3 + 2, none⟩) hgr).trans c3, (hb1.cell (p := ⟨gb, k * 3, none⟩) hgr2).trans d1, (hb1.cell (p := ⟨gb, k * 3 + 1, none⟩) hgr2).trans d2, (hb1.cell (p := ⟨gb, k * 3 + 2, none⟩) hgr2).trans d3⟩)
        refine wpAnyH_take (i := 0) (oi := { dst := some 17, op := Go.Op.move (Go.Operand.tmp 0), type := 43, pos := "exact.go:342", after := #[], guard := none }) (v := ?_) rfl (by kernel_rfl) (by kernel_rfl) (by kernel_rfl) (fun _ _ _ h => h) (Or.inl ⟨by rfl, ?_⟩) (by assumption) ?_
        rotate_left
        · (intro w hSw; (try dsimp only at hSw); go_simp; try with_reducible rfl)
        try simp only [Act.put, List.setIfInBounds_toArray, List.set_cons_zero, List.set_cons_succ]
        refine wpAnyH_take (i := 1) (oi := { dst := some 18, op := Go.Op.move (Go.Operand.tmp 5), type := 3, pos := "exact.go:342", after := #[], guard := none }) (v := ?_) rfl (by kernel_rfl) (by kernel_rfl) (by kernel_rfl) (fun _ _ _ h => h) (Or.inl ⟨by rfl, ?_⟩) (by assumption) ?_
        rotate_left
        · (intro w hSw; (try dsimp only at hSw); go_simp; try with_reducible rfl)
        try simp only [Act.put, List.setIfInBounds_toArray, List.set_cons_zero, List.set_cons_succ]
        refine wpAnyH_take (i := 2) (oi := { dst := some 19, op := Go.Op.indexAddr 43 (Go.Operand.tmp 17) (Go.Operand.tmp 18), type := 0, pos := "exact.go:342", after := #[{ on := 0, ground := Go.Ground.data }, { on := 1, ground := Go.Ground.data }], guard := none }) (v := ?_) rfl (by kernel_rfl) (by kernel_rfl) (by kernel_rfl) (fun _ _ _ h => h) (Or.inl ⟨by rfl, ?_⟩) (by assumption) ?_
        rotate_left
        · (intro w hSw; (try dsimp only at hSw); go_simp; try with_reducible rfl)
        try simp only [Act.put, List.setIfInBounds_toArray, List.set_cons_zero, List.set_cons_succ]
        refine wpAnyH_take (i := 3) (oi := { dst := some 20, op := Go.Op.load 27 (Go.Operand.tmp 19), type := 27, pos := "exact.go:342", after := #[{ on := 2, ground := Go.Ground.data }], guard := none }) (v := ?_) rfl (by kernel_rfl) (by kernel_rfl) (by kernel_rfl) (fun _ _ _ h => h) (Or.inl ⟨by rfl, ?_⟩) (by assumption) ?_
        rotate_left
        · (intro w hSw; (try dsimp only at hSw); go_simp; try with_reducible rfl)
        try simp only [Act.put, List.setIfInBounds_toArray, List.set_cons_zero, List.set_cons_succ]
        refine wpAnyH_take (i := 4) (oi := { dst := some 21, op := Go.Op.move (Go.Operand.tmp 1), type := 43, pos := "exact.go:342", after := #[], guard := none }) (v := ?_) rfl (by kernel_rfl) (by kernel_rfl) (by kernel_rfl) (fun _ _ _ h => h) (Or.inl ⟨by rfl, ?_⟩) (by assumption) ?_
        rotate_left
        · (intro w hSw; (try dsimp only at hSw); go_simp; try with_reducible rfl)
        try simp only [Act.put, List.setIfInBounds_toArray, List.set_cons_zero, List.set_cons_succ]
        refine wpAnyH_take (i := 5) (oi := { dst := some 22, op := Go.Op.move (Go.Operand.tmp 5), type := 3, pos := "exact.go:342", after := #[], guard := none }) (v := ?_) rfl (by kernel_rfl) (by kernel_rfl) (by kernel_rfl) (fun _ _ _ h => h) (Or.inl ⟨by rfl, ?_⟩) (by assumption) ?_
        rotate_left
        · (intro w hSw; (try dsimp only at hSw); go_simp; try with_reducible rfl)
        try simp only [Act.put, List.setIfInBounds_toArray, List.set_cons_zero, List.set_cons_succ]
        refine wpAnyH_take (i := 6) (oi := { dst := some 23, op := Go.Op.indexAddr 43 (Go.Operand.tmp 21) (Go.Operand.tmp 22), type := 0, pos := "exact.go:342", after := #[{ on := 4, ground := Go.Ground.data }, { on := 5, ground := Go.Ground.data }], guard := none }) (v := ?_) rfl (by kernel_rfl) (by kernel_rfl) (by kernel_rfl) (fun _ _ _ h => h) (Or.inl ⟨by rfl, ?_⟩) (by assumption) ?_
        rotate_left
        · (intro w hSw; (try dsimp only at hSw); go_simp; try with_reducible rfl)
        try simp only [Act.put, List.setIfInBounds_toArray, List.set_cons_zero, List.set_cons_succ]
        refine wpAnyH_take (i := 7) (oi := { dst := some 24, op := Go.Op.load 27 (Go.Operand.tmp 23), type := 27, pos := "exact.go:342", after := #[{ on := 6, ground := Go.Ground.data }], guard := none }) (v := ?_) rfl (by kernel_rfl) (by kernel_rfl) (by kernel_rfl) (fun _ _ _ h => h) (Or.inl ⟨by rfl, ?_⟩) (by assumption) ?_
        rotate_left
        · (intro w hSw; (try dsimp only at hSw); go_simp; try with_reducible rfl)
        try simp only [Act.put, List.setIfInBounds_toArray, List.set_cons_zero, List.set_cons_succ]
        refine wpAnyH_ready (rs := [8]) (by kernel_rfl) (by simp) ?_
        refine AllReadyH.cons (o := { dst := some 25, op := Go.Op.call { callee := Go.Callee.value (Go.Operand.func 51), args := #[Go.Operand.tmp 20, Go.Operand.tmp 24], argTypes := #[27, 27] }, type := 4, pos := "exact.go:342", after := #[{ on := 3, ground := Go.Ground.data }, { on := 7, ground := Go.Ground.data }], guard := none }) rfl (fun K8 hK8 => ?_) AllReadyH.nil
        go_simp
        (refine (HE1.out _).mono ?_; rintro e v1 ⟨rfl, hb1⟩)
        go_wp2_with fail
        refine hK8.out _ _ ?_ (fun hHeld1 => ?_)
        · (try dsimp only); (first | go_keep | exact ⟨(hb1.cell (p := ⟨ga, k * 3, none⟩) hgr).trans c1, (hb1.cell (p := ⟨ga, k * 3 + 1, none⟩) hgr).trans c2, (hb1.cell (p := ⟨ga, k * 3 + 2, none⟩) hgr).trans c3, (hb1.cell (p := ⟨gb, k * 3, none⟩) hgr2).trans d1, (hb1.cell (p := ⟨gb, k * 3 + 1, none⟩) hgr2).trans d2, (hb1.cell (p := ⟨gb, k * 3 + 2, none⟩) hgr2).trans d3⟩)
        clear hK8 K8 hHeld0
        try simp only [Act.put, List.setIfInBounds_toArray, List.set_cons_zero, List.set_cons_succ]
        refine wpAnyH_take (i := 9) (oi := { dst := some 26, op := Go.Op.unOp Go.UnOp.not 4 (Go.Operand.tmp 25), type := 4, pos := "exact.go:342", after := #[{ on := 8, ground := Go.Ground.data }], guard := none }) (v := ?_) rfl (by kernel_rfl) (by kernel_rfl) (by kernel_rfl) (fun _ _ _ h => h) (Or.inl ⟨by rfl, ?_⟩) (by assumption) ?_
        rotate_left
        · (intro w hSw; (try dsimp only at hSw); go_simp; try with_reducible rfl)
        try simp only [Act.put, List.setIfInBounds_toArray, List.set_cons_zero, List.set_cons_succ]
        refine wpAnyH_done (by kernel_rfl) ?_ _
        go_wp2_with fail
        go_roundw
        case rel => exact ⟨k + 1, by omega, by go_num, below_call (below_dr hbl.out) hb1⟩
        case measure => simp [intOf]; omega
      · go_wp2_with fail
        go_ret
        exact ⟨rfl, hbl.out⟩

set_option maxRecDepth 100000 in
/-- Marks are laid into a list of mazes. -/
theorem mark_one (v : Value) (base n : Nat) (m : Nat) (mi : Int) (xs : List Value) (w : World) (hmi : mi = (m : Int)) (hm : 0 < m) (hn : m + 3 * n ≤ 3000000) (hown : w.ownsRow base 27 3 v n xs) :
    Calls Try.prog 65 #[v, .int .i64 mi] w fun e w' => e = .returned (.int .i64 ((m + n * 3 : Nat) : Int)) ∧ w'.ownsRow base 27 3 v n (intK.marks m (n * 3)) ∧ w.grownBy w' v.ownBlock := by
  subst hmi
  have hxl : xs.length = n * 3 := hown.1
  by_cases h0 : n = 0
  · subst h0
    have hxs : xs = [] := List.eq_nil_of_length_eq_zero hxl
    subst hxs
    have HO := Lib.hid (show w.ownsRow base 27 3 v 0 (intK.marks m (0 * 3)) from hown)
    obtain ⟨A, c, rfl⟩ := intsP.own_form hown
    clear hown
    go_enter Try.func65, Try.ntmps65
    go_wp2_with fail
    go_loopw [1, 5] (fun u1 u5 wr => u1 = .int .i64 (m : Int) ∧ u5 = .int .i64 0 ∧ wr = w) (fun _ _ _ => 0)
    case atStart => exact ⟨rfl, rfl, rfl⟩
    case round =>
      obtain ⟨rfl, rfl, rfl⟩ := hrel
      go_wp2_with fail
      go_ret
      exact ⟨rfl, HO.out, grown_refl _ _⟩
  · obtain ⟨g, c, rfl, hg, hgs⟩ := own_some hown (by omega)
    have HO := Lib.hid (show w.ownsRow base 27 3 (.slice (some ⟨g, 0, none⟩) n c) n (intK.part m (0 * 3) xs) by rw [Nat.zero_mul, intK.part_zero]; exact hown)
    have HR := Lib.hid (grown_refl w (some g))
    clear hown
    go_enter Try.func65, Try.ntmps65
    go_wp2_with fail
    go_loopw [1, 5] (fun u1 u5 wr => ∃ j : Nat, j ≤ n ∧ u5 = .int .i64 j ∧ u1 = .int .i64 ((m + j * 3 : Nat) : Int) ∧ wr.ownsRow base 27 3 (.slice (some ⟨g, 0, none⟩) n c) n (intK.part m (j * 3) xs) ∧ w.grownBy wr (some g)) (fun _ u5 _ => n - (intOf u5).toNat)
    case atStart => exact ⟨0, Nat.zero_le _, rfl, by simp, HO.out, HR.out⟩
    case round =>
      obtain ⟨j, hj, rfl, rfl, hown, hb⟩ := hrel
      clear HO HR
      by_cases hlt : j < n
      · have hpl : (intK.part m (j * 3) xs).length = n * 3 := hown.1
        have h1 := (hown.stored (j * 3) (.int .i64 ((m + j * 3 : Nat) : Int))).1
        rw [intK.part_set m (j * 3) xs (by omega)] at h1
        have h2 := (h1.stored (j * 3 + 1) (.int .i64 ((m + (j * 3 + 1) : Nat) : Int))).1
        rw [intK.part_set m (j * 3 + 1) xs (by omega)] at h2
        have h3 := (h2.stored (j * 3 + 2) (.int .i64 ((m + (j * 3 + 2) : Nat) : Int))).1
        rw [intK.part_set m (j * 3 + 2) xs (by omega)] at h3
        have HG2 := Lib.hid (grown_set (j := j * 3 + 2) (grown_set (j := j * 3 + 1) (grown_set (j := j * 3) hb (.int .i64 ((m + j * 3 : Nat) : Int))) (.int .i64 ((m + (j * 3 + 1) : Nat) : Int))) (.int .i64 ((m + (j * 3 + 2) : Nat) : Int)))
        have hk0 : (0 : Int) ≤ (j : Int) := Int.natCast_nonneg _
        have hk1 : (j : Int) < (n : Int) := by omega
        have hcell : ∃ old, wr.cell? ⟨g, j * 3, none⟩ = some old := ⟨(intK.part m (j * 3) xs)[j * 3]'(by omega), by rw [hown.cellAt (j * 3) (by omega), List.getElem?_eq_getElem (by omega)]⟩
        have hcell2 : ∃ old, wr.cell? ⟨g, j * 3 + 1, none⟩ = some old := ⟨(intK.part m (j * 3) xs)[j * 3 + 1]'(by omega), by rw [hown.cellAt (j * 3 + 1) (by omega), List.getElem?_eq_getElem (by omega)]⟩
        have hcell3 : ∃ old, wr.cell? ⟨g, j * 3 + 2, none⟩ = some old := ⟨(intK.part m (j * 3) xs)[j * 3 + 2]'(by omega), by rw [hown.cellAt (j * 3 + 2) (by omega), List.getElem?_eq_getElem (by omega)]⟩
        have hfz : wr.frozen? ⟨g, j * 3, none⟩ = false := hown.frozenAt (j * 3)
        have hfz2 : wr.frozen? ⟨g, j * 3 + 1, none⟩ = false := hown.frozenAt (j * 3 + 1)
        have hfz3 : wr.frozen? ⟨g, j * 3 + 2, none⟩ = false := hown.frozenAt (j * 3 + 2)
        obtain ⟨old, hcell⟩ := hcell
        obtain ⟨old2, hcell2⟩ := hcell2
        obtain ⟨old3, hcell3⟩ := hcell3
        have H2 := Lib.hid h3
        clear hpl hown h1 h2 h3
        go_wp2_with fail
        go_roundw
        case rel =>
          have e1 : (.int .i64 ((m : Int) + (j : Int) * 3) : Value) = .int .i64 ((m + j * 3 : Nat) : Int) := congrArg (Value.int .i64) (by omega)
          have e2 : (.int .i64 ((m : Int) + (j : Int) * 3 + 1) : Value) = .int .i64 ((m + (j * 3 + 1) : Nat) : Int) := congrArg (Value.int .i64) (by omega)
          have e3 : (.int .i64 ((m : Int) + (j : Int) * 3 + 1 + 1) : Value) = .int .i64 ((m + (j * 3 + 2) : Nat) : Int) := congrArg (Value.int .i64) (by omega)
          have e4 : (.int .i64 ((m : Int) + (j : Int) * 3 + 2) : Value) = .int .i64 ((m + (j * 3 + 2) : Nat) : Int) := congrArg (Value.int .i64) (by omega)
          first | rw [e1, e2, e3] | rw [e1, e2, e4]
          refine ⟨j + 1, by omega, by go_num, congrArg (Value.int .i64) (by omega), ?_, HG2.out⟩
          rw [show (j + 1) * 3 = j * 3 + 1 + 1 + 1 by omega]
          exact H2.out
        case measure => simp [intOf]; omega
      · obtain rfl : j = n := by omega
        rw [intK.part_all m (j * 3) xs hxl] at hown
        go_wp2_with fail
        go_ret
        exact ⟨rfl, hown, hb⟩

set_option maxRecDepth 100000 in
/-- Marks are found again. -/
theorem held_any (v : Value) (base n : Nat) (m : Nat) (mi : Int) (w : World) (hmi : mi = (m : Int)) (hm : 0 < m) (hn : m + 3 * n ≤ 3000000) (hown : w.ownsRow base 27 3 v n (intK.marks m (n * 3))) :
    Calls Try.prog 66 #[v, .int .i64 mi] w fun e w' => e = .returned (.int .i64 ((m + n * 3 : Nat) : Int)) ∧ Below w.heap.size w w' := by
  subst hmi
  by_cases h0 : n = 0
  · subst h0
    obtain ⟨A, c, rfl⟩ := intsP.own_form hown
    clear hown
    go_enter Try.func66, Try.ntmps66
    go_wp2_with fail
    go_loopw [1, 5] (fun u1 u5 wr => u1 = .int .i64 (m : Int) ∧ u5 = .int .i64 0 ∧ wr = w) (fun _ _ _ => 0)
    case atStart => exact ⟨rfl, rfl, rfl⟩
    case round =>
      obtain ⟨rfl, rfl, rfl⟩ := hrel
      go_wp2_with fail
      go_ret
      exact ⟨rfl, Below.refl _ _⟩
  · obtain ⟨g, c, rfl, hg, hgs⟩ := own_some hown (by omega)
    have HC := Lib.hid (fun j (hj : j < n) => show w.cell? ⟨g, j * 3, none⟩ = some (.int .i64 ((m : Int) + (j : Int) * 3)) ∧ w.cell? ⟨g, j * 3 + 1, none⟩ = some (.int .i64 ((m : Int) + (j : Int) * 3 + 1)) ∧ w.cell? ⟨g, j * 3 + 2, none⟩ = some (.int .i64 ((m : Int) + (j : Int) * 3 + 1 + 1)) by
      rw [hown.cellAt (j * 3) (by omega), hown.cellAt (j * 3 + 1) (by omega), hown.cellAt (j * 3 + 2) (by omega), intK.marks_at m (n * 3) (j * 3) (by omega), intK.marks_at m (n * 3) (j * 3 + 1) (by omega), intK.marks_at m (n * 3) (j * 3 + 2) (by omega)]
      exact ⟨congrArg (fun z => some (Value.int .i64 z)) (by omega), congrArg (fun z => some (Value.int .i64 z)) (by omega), congrArg (fun z => some (Value.int .i64 z)) (by omega)⟩)
    clear hown
    go_enter Try.func66, Try.ntmps66
    go_wp2_with fail
    go_loopw [1, 5] (fun u1 u5 wr => ∃ j : Nat, j ≤ n ∧ u5 = .int .i64 j ∧ u1 = .int .i64 ((m + j * 3 : Nat) : Int) ∧ wr = w) (fun _ u5 _ => n - (intOf u5).toNat)
    case atStart => exact ⟨0, Nat.zero_le _, rfl, by simp, rfl⟩
    case round =>
      obtain ⟨j, hj, rfl, rfl, rfl⟩ := hrel
      by_cases hlt : j < n
      · have hk0 : (0 : Int) ≤ (j : Int) := Int.natCast_nonneg _
        have hk1 : (j : Int) < (n : Int) := by omega
        obtain ⟨hcell, hcell2, hcell3⟩ := HC.out j hlt
        have hne : ((m : Int) + (j : Int) * 3 != (m : Int) + (j : Int) * 3) = false := by simp
        have hne2 : ((m : Int) + (j : Int) * 3 + 1 != (m : Int) + (j : Int) * 3 + 1) = false := by simp
        have hne3 : ((m : Int) + (j : Int) * 3 + 1 + 1 != (m : Int) + (j : Int) * 3 + 1 + 1) = false := by simp
        go_wp2_with fail
        go_roundw
        case rel => exact ⟨j + 1, by omega, by go_num, congrArg (Value.int .i64) (by omega), trivial⟩
        case measure => simp [intOf]; omega
      · obtain rfl : j = n := by omega
        go_wp2_with fail
        go_ret
        exact ⟨rfl, Below.refl _ _⟩
end Go.Proofs.Ythgnhamokikhkaa.mzsL
