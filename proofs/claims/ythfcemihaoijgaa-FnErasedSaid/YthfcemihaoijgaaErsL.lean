/- The law of walks without loops: its walk, over the contracts of the program's functions. -/
import Derived.Test.YthfcemihaoijgaaErsQ
import Derived.Test.YthfcemihaoijgaaWlkD
import Derived.Test.YthfcemihaoijgaaWayN
import Derived.Test.YthfcemihaoijgaaPerfM
namespace Go.Proofs.Ythfcemihaoijgaa.fnErased
open Go.ChangeShapes Go.WideShapes Go.ChangeAt Go.RowKit
open draw gridP gridC bitP mazeP mazeC mazeM mazeE intsP intK bigK reachP reachM reachN reachD intA listK perfP wayP ersP ersQ walkD
set_option linter.unusedVariables false

set_option maxRecDepth 100000 in
/-- Two slices that hold the same integers are equal. -/
theorem same_any (va vb : Value) (ba bb n : Nat) (xs : List Int) (w : World) (hx : xs.length = n) (hn : n ≤ 2000000)
    (ha : w.ownsRow ba 3 1 va n (icells xs)) (hb : w.ownsRow bb 3 1 vb n (icells xs)) :
    Calls Try.prog 18 #[va, vb] w fun e w' => e = .returned (.bool true) ∧ ∃ d, w' = w.drewN d := by
  obtain ⟨Aa, ca, rfl⟩ := own_form ha
  obtain ⟨Ab, cb, rfl⟩ := own_form hb
  by_cases h0 : n = 0
  · subst h0
    clear ha hb
    go_enter Try.func18, Try.ntmps18
    go_wp2_with fail
    go_loopw [5] (fun u5 wr => u5 = .int .i64 0 ∧ wr = w) (fun _ _ => 0)
    case atStart => exact ⟨rfl, rfl⟩
    case round =>
      obtain ⟨rfl, rfl⟩ := hrel
      go_wp2_with fail
      go_ret
      exact ⟨rfl, 0, rfl⟩
  · obtain ⟨ga, ca', ea, _, hga⟩ := own_some ha (by omega)
    obtain ⟨gb, cb', eb, _, hgb⟩ := own_some hb (by omega)
    injection ea with ea1 _ ea2
    injection eb with eb1 _ eb2
    subst ea1 ea2 eb1 eb2
    have HA := Lib.hid (fun k (hk : k < n) => ha.cellAt k (by omega))
    have HB := Lib.hid (fun k (hk : k < n) => hb.cellAt k (by omega))
    have hnn : ((n : Int) != (n : Int)) = false := by simp
    clear ha hb
    go_enter Try.func18, Try.ntmps18
    go_wp2_with fail
    go_loopw [5] (fun u5 wr => ∃ k d : Nat, k ≤ n ∧ u5 = .int .i64 k ∧ wr = w.drewN d) (fun u5 _ => n - (intOf u5).toNat)
    case atStart => exact ⟨0, 0, Nat.zero_le _, rfl, rfl⟩
    case round =>
      obtain ⟨k, d, hk, rfl, rfl⟩ := hrel
      by_cases hlt : k < n
      · have e : (icells xs)[k]? = some (.int .i64 (xs[k]'(by omega))) := icells_at xs k (by omega)
        have c1 : w.cell? ⟨ga, k, none⟩ = some (.int .i64 (xs[k]'(by omega))) := (HA.out k hlt).trans e
        have c2 : w.cell? ⟨gb, k, none⟩ = some (.int .i64 (xs[k]'(by omega))) := (HB.out k hlt).trans e
        have hk0 : (0 : Int) ≤ (k : Int) := Int.natCast_nonneg _
        have hk1 : (k : Int) < (n : Int) := by omega
        clear e
        generalize xs[k]'(by omega) = x at c1 c2
        have hxx : (x != x) = false := by simp
        go_wp2_with fail
        go_quiet (fail)
        go_wp2_with fail
        go_roundw
        case rel => exact ⟨k + 1, _, by omega, by go_num, rfl⟩
        case measure => simp [intOf]; omega
      · go_wp2_with fail
        go_ret
        exact ⟨rfl, d, rfl⟩

/-- The law's answer. -/
def Yes (w : World) (e : Ending) (w' : World) : Prop := e = .returned (.bool true) ∧ Below w.heap.size w w'
theorem yes_mk {w w' : World} (h : Below w.heap.size w w') : Yes w (.returned (.bool true)) w' := ⟨rfl, h⟩
/-- While the law goes on: the maze's box, the cells of the walk, what is left of them, the way along them. -/
def LT (w : World) (M : Nat) (x y z : Int) (gC nc cC : Nat) (C : List Int) (gE me cE : Nat) (E : List Int) (vF : Value) (F : List Int) (X : World) : Prop :=
  Below w.heap.size w X ∧ MBox M x y z X ∧ X.ownsRow w.heap.size 3 1 (.slice (some ⟨gC, 0, none⟩) (nc + 1) cC) (nc + 1) (icells C) ∧ X.ownsRow w.heap.size 3 1 (.slice (some ⟨gE, 0, none⟩) (me + 1) cE) (me + 1) (icells E) ∧ X.ownsRow w.heap.size 3 1 vF me (icells F)
theorem LT.call {w X X' : World} {M gC nc cC gE me cE : Nat} {x y z : Int} {C E F : List Int} {vF : Value} (h : LT w M x y z gC nc cC C gE me cE E vF F X) (hb : Below X.heap.size X X') : LT w M x y z gC nc cC C gE me cE E vF F X' :=
  ⟨below_call h.1 hb, h.2.1.call hb, own_call h.2.2.1 hb, own_call h.2.2.2.1 hb, own_call h.2.2.2.2 hb⟩
theorem LT.dr {w X : World} {M gC nc cC gE me cE : Nat} {x y z : Int} {C E F : List Int} {vF : Value} (h : LT w M x y z gC nc cC C gE me cE E vF F X) : LT w M x y z gC nc cC C gE me cE E vF F X.drew := h.call ⟨rfl, rfl, rfl, Nat.le_refl _, fun _ _ => rfl⟩
theorem LT.drs {w X : World} {M gC nc cC gE me cE : Nat} {x y z : Int} {C E F : List Int} {vF : Value} (h : LT w M x y z gC nc cC C gE me cE E vF F X) (d : Nat) : LT w M x y z gC nc cC C gE me cE E vF F (X.drewN d) := h.call ⟨rfl, rfl, rfl, Nat.le_refl _, fun _ _ => rfl⟩

set_option maxRecDepth 100000 in
set_option maxHeartbeats 4000000 in
theorem walk_at (A : Option Addr) (n c : Nat) (w : World) (hn : n ≤ maxLen) (hb : BytesIn w w.heap.size A n)
    (HEr : Hid (∀ A n c l X, l.length = n → n ≤ 1048576 → IntsIn X X.heap.size A l → (∀ u ∈ l, -9223372036854775808 ≤ u ∧ u ≤ 9223372036854775807) → Calls Try.prog 11 #[.slice A n c] X (Ints (erL l) X)))
    (HEw : Hid (∀ x y z a A n c l X, l.length = n → n ≤ 1048576 → IntsIn X X.heap.size A l → Calls Try.prog 12 #[.agg #[.int .i64 x, .int .i64 y, .int .i64 z], .int .i64 a, .slice A n c] X (IntsB (ewL x y z a l) (ewB x y z a l) X)))
    (HSm : Hid (∀ A n c l X, l.length = n → n ≤ 1048576 → IntsIn X X.heap.size A l → (∀ u ∈ l, -9223372036854775808 ≤ u ∧ u ≤ 9223372036854775807) → Calls Try.prog 13 #[.slice A n c] X (Bl (smB l) X)))
    (HCe : Hid (∀ A n c l X, l.length = n → n ≤ 1048576 → IntsIn X X.heap.size A l → (∀ u ∈ l, -9223372036854775808 ≤ u ∧ u ≤ 9223372036854775807) → Calls Try.prog 14 #[.slice A n c] X (Nm (ceZ l) X)))
    (HWk : Hid (∀ x y z a A n c l X, l.length = n → n ≤ 1048576 → IntsIn X X.heap.size A l → Calls Try.prog 15 #[.agg #[.int .i64 x, .int .i64 y, .int .i64 z], .int .i64 a, .slice A n c] X (NmB (wwZ x y z a l) (wwB x y z a l) X))) :
    Calls Try.prog 3 #[.slice A n c] w (Yes w) := by
  have HK := @Lib.hid _ (fun w' h => @yes_mk w w' h)
  have HR := Lib.hid (Below.refl w.heap.size w)
  have HD := Lib.hid (drawWalk_any A n c w hn hb)
  have HN := Lib.hid hn
  unfold maxLen at hn
  clear hb
  by_cases hbig : 1048576 < n
  · go_enter Try.func3, Try.ntmps3
    go_wp2_with fail
    refine (big_yes A n c w HN.out hbig).mono ?_
    rintro e w' ⟨rfl, rfl⟩
    go_wp2_with fail
    go_ret
    exact HK.out _ HR.out
  · go_enter Try.func3, Try.ntmps3
    go_wp2_with fail
    refine (big_no A n c w HN.out (by omega)).mono ?_
    rintro e w' ⟨rfl, rfl⟩
    go_wp2_with fail
    refine HD.out.mono ?_
    rintro e w1 ⟨x, y, z, a, l, v, ⟨ha, hl, hw⟩, rfl, ho, hb1⟩
    obtain ⟨b, f1, f2, f3, f4, f5, f6, f7, f8, f9, f10, f11, f12, f13, f14⟩ := erased ha hl hw
    have A1 := Lib.hid (fun A n c X h1 h2 h3 => wayM.cellsOn_any x y z a A n c l X h1 h2 h3)
    have A2 := Lib.hid (fun A n c X h1 h2 h3 => HEr.out A n c (coL x y z a l) X h1 h2 h3 co_range)
    have A3 := Lib.hid (fun A n c X h1 h2 h3 => HEw.out x y z a A n c l X h1 h2 h3)
    rw [f10] at A3
    have A4 := Lib.hid (fun A n c X h1 h2 h3 => HSm.out A n c (erL (coL x y z a l)) X h1 h2 h3 (fun u hu => co_range u (er_sub _ u hu)))
    rw [f8] at A4
    have A5 := Lib.hid (fun A n c X h1 h2 h3 => HCe.out A n c (coL x y z a l) X h1 h2 h3 co_range)
    have A6 := Lib.hid (fun A n c X h1 h2 h3 => HWk.out x y z a A n c (ewL x y z a l) X h1 h2 h3)
    rw [f11, f12] at A6
    have A7 := Lib.hid (fun X => wayN.wayBetween_any x y z a b X)
    have A8 := Lib.hid (fun X => perfM.isPerfect_any x y z X)
    have A9 := Lib.hid (fun A n c X h1 h2 h3 => HEr.out A n c (erL (coL x y z a l)) X h1 h2 h3 (fun u hu => co_range u (er_sub _ u hu)))
    rw [f14] at A9
    have hsame := Lib.hid (fun va vb ba bb n xs X => @same_any va vb ba bb n xs X)
    have hce : ceZ (coL x y z a l) = ((coL x y z a l).length : Int) - ((erL (coL x y z a l)).length : Int) := rfl
    rw [hce] at A5
    have hz1 := hb1.size
    have hbl0 := @Lib.hid _ (fun o => hb1.alloc hz1 o)
    have hxm0 := @Lib.hid _ (fun T => mbox_new x y z w1 T)
    have hrl0 := @Lib.hid _ (fun o => own_call ho (below_box w1 o))
    obtain ⟨Al, cl, rfl⟩ := own_form ho
    have Hpw := Lib.hid f13
    have hll := f1
    clear HEr HEw HSm HCe HWk HD HR hb1 ha hw f8 f10 f11 f12 f13 f14 hce ho
    generalize coL x y z a l = C at *
    generalize erL C = E at *
    generalize ewL x y z a l = F at *
    generalize wbL x y z a b = G at *
    generalize wbB x y z a b = Gb at *
    have HnC := Lib.hid f1
    obtain ⟨me, hme⟩ : ∃ me, E.length = me + 1 := ⟨E.length - 1, by omega⟩
    have HnE := Lib.hid hme
    have HnF : Hid (F.length = me) := Lib.hid (by omega)
    rw [hme] at f5 f7
    rw [Nat.add_sub_cancel] at f7
    have HC0 := Lib.hid f2
    have HC1 := Lib.hid f3
    have HE0 := Lib.hid f6
    have HE1 := Lib.hid f7
    rw [f1, hme] at A5
    have hD0 : (((l.length + 1 : Nat) : Int) - ((me + 1 : Nat) : Int)) = (l.length : Int) - (me : Int) := by omega
    rw [hD0] at A5
    clear f1 f2 f3 f4 f6 f7 f9 hme hll hD0
    generalize hnl : l.length = nc at *
    have Hnl := Lib.hid hnl
    clear hnl
    go_wp2_with fail
    have hbl1 := Lib.hid (hbl0.out (.cells #[.int .i64 x, .int .i64 y, .int .i64 z] 27))
    have hbx1 := Lib.hid (hxm0.out 27)
    have hrl1 := Lib.hid (hrl0.out (.cells #[.int .i64 x, .int .i64 y, .int .i64 z] 27))
    clear hbl0 hxm0 hrl0
    obtain ⟨m0, m1, m2⟩ := hbx1.out.1
    go_wp2_with fail
    refine (A1.out Al nc cl _ rfl (by omega) (ints_own hrl1.out).1).mono ?_
    rintro e w2 ⟨vC, rfl, ho2, hb2⟩
    have hbl2 := Lib.hid (below_call hbl1.out hb2)
    have hbx2 := Lib.hid (hbx1.out.call hb2)
    have hrl2 := Lib.hid (own_call hrl1.out hb2)
    rw [HnC.out] at ho2
    obtain ⟨gC, cC, rfl, -, -⟩ := own_some ho2 (by omega)
    have hrC2 := Lib.hid (own_base ho2 hbl1.out.size)
    clear m0 m1 m2 ho2 hb2 hbl1 hbx1 hrl1 A1
    go_wp2_with fail
    refine (A2.out (some ⟨gC, 0, none⟩) (nc + 1) cC _ HnC.out (by omega) (ints_own hrC2.out).1).mono ?_
    rintro e w3 ⟨vE, rfl, ho3, hb3⟩
    have hbl3 := Lib.hid (below_call hbl2.out hb3)
    have hbx3 := Lib.hid (hbx2.out.call hb3)
    have hrl3 := Lib.hid (own_call hrl2.out hb3)
    have hrC3 := Lib.hid (own_call hrC2.out hb3)
    rw [HnE.out] at ho3
    obtain ⟨gE, cE, rfl, -, -⟩ := own_some ho3 (by omega)
    have hrE3 := Lib.hid (own_base ho3 hbl2.out.size)
    clear ho3 hb3 hbl2 hbx2 hrl2 hrC2 A2
    obtain ⟨m0, m1, m2⟩ := hbx3.out.1
    go_wp2_with fail
    refine (A3.out Al nc cl _ rfl (by omega) (ints_own hrl3.out).1).mono ?_
    rintro e w4 ⟨vF, rfl, ho4, hb4⟩
    rw [HnF.out] at ho4
    have hq4 : Hid (LT w w1.heap.size x y z gC nc cC C gE me cE E vF F w4) := ⟨below_call hbl3.out hb4, hbx3.out.call hb4, own_call hrC3.out hb4, own_call hrE3.out hb4, own_base ho4 hbl3.out.size⟩
    obtain ⟨AF, cF, rfl⟩ := own_form ho4
    clear m0 m1 m2 ho4 hb4 hbl3 hbx3 hrl3 hrC3 hrE3 A3 Hnl
    have p1 : w4.cell? ⟨gC, 0, none⟩ = some (.int .i64 a) := own_cellI hq4.out.2.2.1 HC0.out
    have p2 : w4.cell? ⟨gC, nc, none⟩ = some (.int .i64 b) := own_cellI hq4.out.2.2.1 HC1.out
    have p3 : w4.cell? ⟨gE, 0, none⟩ = some (.int .i64 a) := own_cellI hq4.out.2.2.2.1 HE0.out
    have p4 : w4.cell? ⟨gE, me, none⟩ = some (.int .i64 b) := own_cellI hq4.out.2.2.2.1 HE1.out
    have haa : (a != a) = false := by simp
    have hbb : (b != b) = false := by simp
    have hbq : (b == b) = true := by simp
    have hE0 : ((me : Int) + 1 == 0) = false := beq_eq_false_iff_ne.2 (by omega)
    have hw1 : IntKind.i64.wrap (me : Int) = (me : Int) := IntWalk.i64_in _ (by omega)
    have hw2 : IntKind.i64.wrap (nc : Int) = (nc : Int) := IntWalk.i64_in _ (by omega)
    have hw3 : IntKind.i64.wrap ((nc : Int) - (me : Int)) = (nc : Int) - (me : Int) := IntWalk.i64_in _ (by omega)
    have hD1 : IntKind.i64.wrap ((nc : Int) + 1 - ((me : Int) + 1)) = (nc : Int) - (me : Int) := by rw [show (nc : Int) + 1 - ((me : Int) + 1) = (nc : Int) - (me : Int) by omega]; exact hw3
    have hw4 : ((nc : Int) - (me : Int) != (nc : Int) - (me : Int)) = false := by simp
    have hw5 : ((me : Int) != (me : Int)) = false := by simp
    have hi1 : (0 : Int) ≤ (me : Int) := Int.natCast_nonneg _
    have hi2 : (0 : Int) ≤ (nc : Int) := Int.natCast_nonneg _
    have hi3 : (me : Int) < (me : Int) + 1 := by omega
    have hi4 : (nc : Int) < (nc : Int) + 1 := by omega
    generalize w1.heap.size = M at *
    go_wp2_with fail
    try simp only [List.cons_append, List.nil_append, List.append_eq]
    refine wp_region_held_drew (S := (fun w' => w'.cell? ⟨gC, 0, none⟩ = some (.int .i64 a) ∧ w'.cell? ⟨gC, nc, none⟩ = some (.int .i64 b) ∧ w'.cell? ⟨gE, 0, none⟩ = some (.int .i64 a) ∧ w'.cell? ⟨gE, me, none⟩ = some (.int .i64 b))) (by kernel_rfl) ?_ (fun hHeld0 => ?_)
    · (try dsimp only); go_keep
    refine wpAnyH_take (i := 0) (oi := { dst := some 35, op := Go.Op.move (Go.Operand.tmp 7), type := 28, pos := "laws.go:418", after := #[], guard := none }) (v := ?_) rfl (by kernel_rfl) (by kernel_rfl) (by kernel_rfl) (fun _ _ _ h => h) (Or.inl ⟨by rfl, ?_⟩) (by assumption) ?_
    rotate_left
    · (intro w hSw; (try dsimp only at hSw); go_simp; try with_reducible rfl)
    try simp only [Act.put, List.setIfInBounds_toArray, List.set_cons_zero, List.set_cons_succ]
    refine wpAnyH_take (i := 1) (oi := { dst := some 36, op := Go.Op.call { callee := Go.Callee.builtin Go.Builtin.len, args := #[Go.Operand.tmp 35], argTypes := #[28] }, type := 3, pos := "laws.go:418", after := #[{ on := 0, ground := Go.Ground.data }], guard := none }) (v := ?_) rfl (by kernel_rfl) (by kernel_rfl) (by kernel_rfl) (fun _ _ _ h => h) (Or.inl ⟨by rfl, ?_⟩) (by assumption) ?_
    rotate_left
    · (intro w hSw; (try dsimp only at hSw); go_simp; try with_reducible rfl)
    try simp only [Act.put, List.setIfInBounds_toArray, List.set_cons_zero, List.set_cons_succ]
    refine wpAnyH_take (i := 2) (oi := { dst := some 37, op := Go.Op.binOp Go.BinOp.eql 3 (Go.Operand.tmp 36) (Go.Operand.const (Go.Value.int Go.IntKind.i64 0)) 3, type := 4, pos := "laws.go:418", after := #[{ on := 1, ground := Go.Ground.data }], guard := none }) (v := ?_) rfl (by kernel_rfl) (by kernel_rfl) (by kernel_rfl) (fun _ _ _ h => h) (Or.inl ⟨by rfl, ?_⟩) (by assumption) ?_
    rotate_left
    · (intro w hSw; (try dsimp only at hSw); go_simp; try with_reducible rfl)
    try simp only [Act.put, List.setIfInBounds_toArray, List.set_cons_zero, List.set_cons_succ]
    refine wpAnyH_take (i := 3) (oi := { dst := some 38, op := Go.Op.move (Go.Operand.tmp 37), type := 4, pos := "laws.go:418", after := #[{ on := 2, ground := Go.Ground.data }], guard := none }) (v := ?_) rfl (by kernel_rfl) (by kernel_rfl) (by kernel_rfl) (fun _ _ _ h => h) (Or.inl ⟨by rfl, ?_⟩) (by assumption) ?_
    rotate_left
    · (intro w hSw; (try dsimp only at hSw); go_simp; try with_reducible rfl)
    try simp only [Act.put, List.setIfInBounds_toArray, List.set_cons_zero, List.set_cons_succ]
    refine wpAnyH_take (i := 4) (oi := { dst := some 39, op := Go.Op.move (Go.Operand.tmp 9), type := 4, pos := "laws.go:418", after := #[{ on := 3, ground := Go.Ground.guard }], guard := some (3, false) }) (v := ?_) rfl (by kernel_rfl) (by kernel_rfl) (by kernel_rfl) (fun _ _ _ h => h) (Or.inl ⟨by rfl, ?_⟩) (by assumption) ?_
    rotate_left
    · (intro w hSw; (try dsimp only at hSw); go_simp; try with_reducible rfl)
    try simp only [Act.put, List.setIfInBounds_toArray, List.set_cons_zero, List.set_cons_succ]
    refine wpAnyH_take (i := 5) (oi := { dst := some 40, op := Go.Op.unOp Go.UnOp.not 4 (Go.Operand.tmp 39), type := 4, pos := "laws.go:418", after := #[{ on := 4, ground := Go.Ground.data }, { on := 3, ground := Go.Ground.guard }], guard := some (3, false) }) (v := ?_) rfl (by kernel_rfl) (by kernel_rfl) (by kernel_rfl) (fun _ _ _ h => h) (Or.inl ⟨by rfl, ?_⟩) (by assumption) ?_
    rotate_left
    · (intro w hSw; (try dsimp only at hSw); go_simp; try with_reducible rfl)
    try simp only [Act.put, List.setIfInBounds_toArray, List.set_cons_zero, List.set_cons_succ]
    refine wpAnyH_take (i := 6) (oi := { dst := some 41, op := Go.Op.pick (Go.Operand.tmp 38) (Go.Operand.const (Go.Value.bool true)) (Go.Operand.tmp 40), type := 4, pos := "laws.go:418", after := #[{ on := 3, ground := Go.Ground.data }, { on := 5, ground := Go.Ground.data }], guard := none }) (v := ?_) rfl (by kernel_rfl) (by kernel_rfl) (by kernel_rfl) (fun _ _ _ h => h) (Or.inl ⟨by rfl, ?_⟩) (by assumption) ?_
    rotate_left
    · (intro w hSw; (try dsimp only at hSw); go_simp; try with_reducible rfl)
    try simp only [Act.put, List.setIfInBounds_toArray, List.set_cons_zero, List.set_cons_succ]
    refine wpAnyH_take (i := 7) (oi := { dst := some 42, op := Go.Op.move (Go.Operand.tmp 41), type := 4, pos := "laws.go:418", after := #[{ on := 6, ground := Go.Ground.data }, { on := 3, ground := Go.Ground.chain }], guard := none }) (v := ?_) rfl (by kernel_rfl) (by kernel_rfl) (by kernel_rfl) (fun _ _ _ h => h) (Or.inl ⟨by rfl, ?_⟩) (by assumption) ?_
    rotate_left
    · (intro w hSw; (try dsimp only at hSw); go_simp; try with_reducible rfl)
    try simp only [Act.put, List.setIfInBounds_toArray, List.set_cons_zero, List.set_cons_succ]
    refine wpAnyH_take (i := 8) (oi := { dst := some 43, op := Go.Op.move (Go.Operand.tmp 7), type := 28, pos := "laws.go:418", after := #[{ on := 7, ground := Go.Ground.guard }], guard := some (7, false) }) (v := ?_) rfl (by kernel_rfl) (by kernel_rfl) (by kernel_rfl) (fun _ _ _ h => h) (Or.inl ⟨by rfl, ?_⟩) (by assumption) ?_
    rotate_left
    · (intro w hSw; (try dsimp only at hSw); go_simp; try with_reducible rfl)
    try simp only [Act.put, List.setIfInBounds_toArray, List.set_cons_zero, List.set_cons_succ]
    refine wpAnyH_ready (rs := [9]) (by kernel_rfl) (by simp) ?_
    refine AllReadyH.cons (o := { dst := some 44, op := Go.Op.call { callee := Go.Callee.value (Go.Operand.func 13), args := #[Go.Operand.tmp 43], argTypes := #[28] }, type := 4, pos := "laws.go:418", after := #[{ on := 8, ground := Go.Ground.data }, { on := 7, ground := Go.Ground.chain }, { on := 7, ground := Go.Ground.guard }], guard := some (7, false) }) rfl (fun K9 hK9 => ?_) AllReadyH.nil
    go_simp
    (refine (A4.out (some ⟨gE, 0, none⟩) (me + 1) cE _ HnE.out (by omega) (ints_own hq4.out.dr.2.2.2.1).1).mono ?_; rintro e v1 ⟨rfl, hb5⟩; have hq5 := Lib.hid (hq4.out.dr.call hb5); have q1 := own_cellI hq5.out.2.2.1 HC0.out; have q2 := own_cellI hq5.out.2.2.1 HC1.out; have q3 := own_cellI hq5.out.2.2.2.1 HE0.out; have q4 := own_cellI hq5.out.2.2.2.1 HE1.out; clear hb5)
    go_wp2_with fail
    refine hK9.out _ _ ?_ (fun hHeld1 => ?_)
    · (try dsimp only); go_keep
    clear hK9 K9 hHeld0
    try simp only [Act.put, List.setIfInBounds_toArray, List.set_cons_zero, List.set_cons_succ]
    refine wpAnyH_take (i := 10) (oi := { dst := some 45, op := Go.Op.unOp Go.UnOp.not 4 (Go.Operand.tmp 44), type := 4, pos := "laws.go:418", after := #[{ on := 9, ground := Go.Ground.data }, { on := 7, ground := Go.Ground.guard }], guard := some (7, false) }) (v := ?_) rfl (by kernel_rfl) (by kernel_rfl) (by kernel_rfl) (fun _ _ _ h => h) (Or.inl ⟨by rfl, ?_⟩) (by assumption) ?_
    rotate_left
    · (intro w hSw; (try dsimp only at hSw); go_simp; try with_reducible rfl)
    try simp only [Act.put, List.setIfInBounds_toArray, List.set_cons_zero, List.set_cons_succ]
    refine wpAnyH_take (i := 11) (oi := { dst := some 46, op := Go.Op.pick (Go.Operand.tmp 42) (Go.Operand.const (Go.Value.bool true)) (Go.Operand.tmp 45), type := 4, pos := "laws.go:418", after := #[{ on := 7, ground := Go.Ground.data }, { on := 10, ground := Go.Ground.data }], guard := none }) (v := ?_) rfl (by kernel_rfl) (by kernel_rfl) (by kernel_rfl) (fun _ _ _ h => h) (Or.inl ⟨by rfl, ?_⟩) (by assumption) ?_
    rotate_left
    · (intro w hSw; (try dsimp only at hSw); go_simp; try with_reducible rfl)
    try simp only [Act.put, List.setIfInBounds_toArray, List.set_cons_zero, List.set_cons_succ]
    refine wpAnyH_take (i := 12) (oi := { dst := some 47, op := Go.Op.move (Go.Operand.tmp 46), type := 4, pos := "laws.go:418", after := #[{ on := 11, ground := Go.Ground.data }, { on := 9, ground := Go.Ground.chain }], guard := none }) (v := ?_) rfl (by kernel_rfl) (by kernel_rfl) (by kernel_rfl) (fun _ _ _ h => h) (Or.inl ⟨by rfl, ?_⟩) (by assumption) ?_
    rotate_left
    · (intro w hSw; (try dsimp only at hSw); go_simp; try with_reducible rfl)
    try simp only [Act.put, List.setIfInBounds_toArray, List.set_cons_zero, List.set_cons_succ]
    refine wpAnyH_take (i := 13) (oi := { dst := some 48, op := Go.Op.move (Go.Operand.tmp 7), type := 28, pos := "laws.go:418", after := #[{ on := 12, ground := Go.Ground.guard }], guard := some (12, false) }) (v := ?_) rfl (by kernel_rfl) (by kernel_rfl) (by kernel_rfl) (fun _ _ _ h => h) (Or.inl ⟨by rfl, ?_⟩) (by assumption) ?_
    rotate_left
    · (intro w hSw; (try dsimp only at hSw); go_simp; try with_reducible rfl)
    try simp only [Act.put, List.setIfInBounds_toArray, List.set_cons_zero, List.set_cons_succ]
    refine wpAnyH_take (i := 14) (oi := { dst := some 49, op := Go.Op.indexAddr 28 (Go.Operand.tmp 48) (Go.Operand.const (Go.Value.int Go.IntKind.i64 0)), type := 0, pos := "laws.go:418", after := #[{ on := 13, ground := Go.Ground.data }, { on := 12, ground := Go.Ground.guard }], guard := some (12, false) }) (v := ?_) rfl (by kernel_rfl) (by kernel_rfl) (by kernel_rfl) (fun _ _ _ h => h) (Or.inl ⟨by rfl, ?_⟩) (by assumption) ?_
    rotate_left
    · (intro w hSw; (try dsimp only at hSw); go_simp; try with_reducible rfl)
    try simp only [Act.put, List.setIfInBounds_toArray, List.set_cons_zero, List.set_cons_succ]
    refine wpAnyH_take (i := 15) (oi := { dst := some 50, op := Go.Op.load 3 (Go.Operand.tmp 49), type := 3, pos := "laws.go:418", after := #[{ on := 14, ground := Go.Ground.data }, { on := 12, ground := Go.Ground.guard }], guard := some (12, false) }) (v := ?_) rfl (by kernel_rfl) (by kernel_rfl) (by kernel_rfl) (fun _ _ _ h => h) (Or.inl ⟨by rfl, ?_⟩) (by assumption) ?_
    rotate_left
    · (intro w hSw; (try dsimp only at hSw); go_simp; try with_reducible rfl)
    try simp only [Act.put, List.setIfInBounds_toArray, List.set_cons_zero, List.set_cons_succ]
    refine wpAnyH_take (i := 16) (oi := { dst := some 51, op := Go.Op.move (Go.Operand.tmp 6), type := 28, pos := "laws.go:418", after := #[{ on := 12, ground := Go.Ground.guard }], guard := some (12, false) }) (v := ?_) rfl (by kernel_rfl) (by kernel_rfl) (by kernel_rfl) (fun _ _ _ h => h) (Or.inl ⟨by rfl, ?_⟩) (by assumption) ?_
    rotate_left
    · (intro w hSw; (try dsimp only at hSw); go_simp; try with_reducible rfl)
    try simp only [Act.put, List.setIfInBounds_toArray, List.set_cons_zero, List.set_cons_succ]
    refine wpAnyH_take (i := 17) (oi := { dst := some 52, op := Go.Op.indexAddr 28 (Go.Operand.tmp 51) (Go.Operand.const (Go.Value.int Go.IntKind.i64 0)), type := 0, pos := "laws.go:418", after := #[{ on := 16, ground := Go.Ground.data }, { on := 12, ground := Go.Ground.guard }], guard := some (12, false) }) (v := ?_) rfl (by kernel_rfl) (by kernel_rfl) (by kernel_rfl) (fun _ _ _ h => h) (Or.inl ⟨by rfl, ?_⟩) (by assumption) ?_
    rotate_left
    · (intro w hSw; (try dsimp only at hSw); go_simp; try with_reducible rfl)
    try simp only [Act.put, List.setIfInBounds_toArray, List.set_cons_zero, List.set_cons_succ]
    refine wpAnyH_take (i := 18) (oi := { dst := some 53, op := Go.Op.load 3 (Go.Operand.tmp 52), type := 3, pos := "laws.go:418", after := #[{ on := 17, ground := Go.Ground.data }, { on := 12, ground := Go.Ground.guard }], guard := some (12, false) }) (v := ?_) rfl (by kernel_rfl) (by kernel_rfl) (by kernel_rfl) (fun _ _ _ h => h) (Or.inl ⟨by rfl, ?_⟩) (by assumption) ?_
    rotate_left
    · (intro w hSw; (try dsimp only at hSw); go_simp; try with_reducible rfl)
    try simp only [Act.put, List.setIfInBounds_toArray, List.set_cons_zero, List.set_cons_succ]
    refine wpAnyH_take (i := 19) (oi := { dst := some 54, op := Go.Op.binOp Go.BinOp.neq 3 (Go.Operand.tmp 50) (Go.Operand.tmp 53) 3, type := 4, pos := "laws.go:418", after := #[{ on := 15, ground := Go.Ground.data }, { on := 18, ground := Go.Ground.data }, { on := 12, ground := Go.Ground.guard }], guard := some (12, false) }) (v := ?_) rfl (by kernel_rfl) (by kernel_rfl) (by kernel_rfl) (fun _ _ _ h => h) (Or.inl ⟨by rfl, ?_⟩) (by assumption) ?_
    rotate_left
    · (intro w hSw; (try dsimp only at hSw); go_simp; try with_reducible rfl)
    try simp only [Act.put, List.setIfInBounds_toArray, List.set_cons_zero, List.set_cons_succ]
    refine wpAnyH_take (i := 20) (oi := { dst := some 55, op := Go.Op.pick (Go.Operand.tmp 47) (Go.Operand.const (Go.Value.bool true)) (Go.Operand.tmp 54), type := 4, pos := "laws.go:418", after := #[{ on := 12, ground := Go.Ground.data }, { on := 19, ground := Go.Ground.data }], guard := none }) (v := ?_) rfl (by kernel_rfl) (by kernel_rfl) (by kernel_rfl) (fun _ _ _ h => h) (Or.inl ⟨by rfl, ?_⟩) (by assumption) ?_
    rotate_left
    · (intro w hSw; (try dsimp only at hSw); go_simp; try with_reducible rfl)
    try simp only [Act.put, List.setIfInBounds_toArray, List.set_cons_zero, List.set_cons_succ]
    refine wpAnyH_take (i := 21) (oi := { dst := some 56, op := Go.Op.move (Go.Operand.tmp 55), type := 4, pos := "laws.go:418", after := #[{ on := 20, ground := Go.Ground.data }, { on := 12, ground := Go.Ground.chain }], guard := none }) (v := ?_) rfl (by kernel_rfl) (by kernel_rfl) (by kernel_rfl) (fun _ _ _ h => h) (Or.inl ⟨by rfl, ?_⟩) (by assumption) ?_
    rotate_left
    · (intro w hSw; (try dsimp only at hSw); go_simp; try with_reducible rfl)
    try simp only [Act.put, List.setIfInBounds_toArray, List.set_cons_zero, List.set_cons_succ]
    refine wpAnyH_take (i := 22) (oi := { dst := some 57, op := Go.Op.move (Go.Operand.tmp 7), type := 28, pos := "laws.go:418", after := #[{ on := 21, ground := Go.Ground.guard }], guard := some (21, false) }) (v := ?_) rfl (by kernel_rfl) (by kernel_rfl) (by kernel_rfl) (fun _ _ _ h => h) (Or.inl ⟨by rfl, ?_⟩) (by assumption) ?_
    rotate_left
    · (intro w hSw; (try dsimp only at hSw); go_simp; try with_reducible rfl)
    try simp only [Act.put, List.setIfInBounds_toArray, List.set_cons_zero, List.set_cons_succ]
    refine wpAnyH_take (i := 23) (oi := { dst := some 58, op := Go.Op.move (Go.Operand.tmp 7), type := 28, pos := "laws.go:418", after := #[{ on := 21, ground := Go.Ground.guard }], guard := some (21, false) }) (v := ?_) rfl (by kernel_rfl) (by kernel_rfl) (by kernel_rfl) (fun _ _ _ h => h) (Or.inl ⟨by rfl, ?_⟩) (by assumption) ?_
    rotate_left
    · (intro w hSw; (try dsimp only at hSw); go_simp; try with_reducible rfl)
    try simp only [Act.put, List.setIfInBounds_toArray, List.set_cons_zero, List.set_cons_succ]
    refine wpAnyH_take (i := 24) (oi := { dst := some 59, op := Go.Op.call { callee := Go.Callee.builtin Go.Builtin.len, args := #[Go.Operand.tmp 58], argTypes := #[28] }, type := 3, pos := "laws.go:418", after := #[{ on := 23, ground := Go.Ground.data }, { on := 21, ground := Go.Ground.guard }], guard := some (21, false) }) (v := ?_) rfl (by kernel_rfl) (by kernel_rfl) (by kernel_rfl) (fun _ _ _ h => h) (Or.inl ⟨by rfl, ?_⟩) (by assumption) ?_
    rotate_left
    · (intro w hSw; (try dsimp only at hSw); go_simp; try with_reducible rfl)
    try simp only [Act.put, List.setIfInBounds_toArray, List.set_cons_zero, List.set_cons_succ]
    refine wpAnyH_take (i := 25) (oi := { dst := some 60, op := Go.Op.binOp Go.BinOp.sub 3 (Go.Operand.tmp 59) (Go.Operand.const (Go.Value.int Go.IntKind.i64 1)) 3, type := 3, pos := "laws.go:418", after := #[{ on := 24, ground := Go.Ground.data }, { on := 21, ground := Go.Ground.guard }], guard := some (21, false) }) (v := ?_) rfl (by kernel_rfl) (by kernel_rfl) (by kernel_rfl) (fun _ _ _ h => h) (Or.inl ⟨by rfl, ?_⟩) (by assumption) ?_
    rotate_left
    · (intro w hSw; (try dsimp only at hSw); go_simp; try with_reducible rfl)
    try simp only [Act.put, List.setIfInBounds_toArray, List.set_cons_zero, List.set_cons_succ]
    refine wpAnyH_take (i := 26) (oi := { dst := some 61, op := Go.Op.indexAddr 28 (Go.Operand.tmp 57) (Go.Operand.tmp 60), type := 0, pos := "laws.go:418", after := #[{ on := 22, ground := Go.Ground.data }, { on := 25, ground := Go.Ground.data }, { on := 21, ground := Go.Ground.guard }], guard := some (21, false) }) (v := ?_) rfl (by kernel_rfl) (by kernel_rfl) (by kernel_rfl) (fun _ _ _ h => h) (Or.inl ⟨by rfl, ?_⟩) (by assumption) ?_
    rotate_left
    · (intro w hSw; (try dsimp only at hSw); go_simp; try with_reducible rfl)
    try simp only [Act.put, List.setIfInBounds_toArray, List.set_cons_zero, List.set_cons_succ]
    refine wpAnyH_take (i := 27) (oi := { dst := some 62, op := Go.Op.load 3 (Go.Operand.tmp 61), type := 3, pos := "laws.go:418", after := #[{ on := 26, ground := Go.Ground.data }, { on := 21, ground := Go.Ground.guard }], guard := some (21, false) }) (v := ?_) rfl (by kernel_rfl) (by kernel_rfl) (by kernel_rfl) (fun _ _ _ h => h) (Or.inl ⟨by rfl, ?_⟩) (by assumption) ?_
    rotate_left
    · (intro w hSw; (try dsimp only at hSw); go_simp; try with_reducible rfl)
    try simp only [Act.put, List.setIfInBounds_toArray, List.set_cons_zero, List.set_cons_succ]
    refine wpAnyH_take (i := 28) (oi := { dst := some 63, op := Go.Op.move (Go.Operand.tmp 6), type := 28, pos := "laws.go:418", after := #[{ on := 21, ground := Go.Ground.guard }], guard := some (21, false) }) (v := ?_) rfl (by kernel_rfl) (by kernel_rfl) (by kernel_rfl) (fun _ _ _ h => h) (Or.inl ⟨by rfl, ?_⟩) (by assumption) ?_
    rotate_left
    · (intro w hSw; (try dsimp only at hSw); go_simp; try with_reducible rfl)
    try simp only [Act.put, List.setIfInBounds_toArray, List.set_cons_zero, List.set_cons_succ]
    refine wpAnyH_take (i := 29) (oi := { dst := some 64, op := Go.Op.move (Go.Operand.tmp 6), type := 28, pos := "laws.go:418", after := #[{ on := 21, ground := Go.Ground.guard }], guard := some (21, false) }) (v := ?_) rfl (by kernel_rfl) (by kernel_rfl) (by kernel_rfl) (fun _ _ _ h => h) (Or.inl ⟨by rfl, ?_⟩) (by assumption) ?_
    rotate_left
    · (intro w hSw; (try dsimp only at hSw); go_simp; try with_reducible rfl)
    try simp only [Act.put, List.setIfInBounds_toArray, List.set_cons_zero, List.set_cons_succ]
    refine wpAnyH_take (i := 30) (oi := { dst := some 65, op := Go.Op.call { callee := Go.Callee.builtin Go.Builtin.len, args := #[Go.Operand.tmp 64], argTypes := #[28] }, type := 3, pos := "laws.go:418", after := #[{ on := 29, ground := Go.Ground.data }, { on := 21, ground := Go.Ground.guard }], guard := some (21, false) }) (v := ?_) rfl (by kernel_rfl) (by kernel_rfl) (by kernel_rfl) (fun _ _ _ h => h) (Or.inl ⟨by rfl, ?_⟩) (by assumption) ?_
    rotate_left
    · (intro w hSw; (try dsimp only at hSw); go_simp; try with_reducible rfl)
    try simp only [Act.put, List.setIfInBounds_toArray, List.set_cons_zero, List.set_cons_succ]
    refine wpAnyH_take (i := 31) (oi := { dst := some 66, op := Go.Op.binOp Go.BinOp.sub 3 (Go.Operand.tmp 65) (Go.Operand.const (Go.Value.int Go.IntKind.i64 1)) 3, type := 3, pos := "laws.go:418", after := #[{ on := 30, ground := Go.Ground.data }, { on := 21, ground := Go.Ground.guard }], guard := some (21, false) }) (v := ?_) rfl (by kernel_rfl) (by kernel_rfl) (by kernel_rfl) (fun _ _ _ h => h) (Or.inl ⟨by rfl, ?_⟩) (by assumption) ?_
    rotate_left
    · (intro w hSw; (try dsimp only at hSw); go_simp; try with_reducible rfl)
    try simp only [Act.put, List.setIfInBounds_toArray, List.set_cons_zero, List.set_cons_succ]
    refine wpAnyH_take (i := 32) (oi := { dst := some 67, op := Go.Op.indexAddr 28 (Go.Operand.tmp 63) (Go.Operand.tmp 66), type := 0, pos := "laws.go:418", after := #[{ on := 28, ground := Go.Ground.data }, { on := 31, ground := Go.Ground.data }, { on := 21, ground := Go.Ground.guard }], guard := some (21, false) }) (v := ?_) rfl (by kernel_rfl) (by kernel_rfl) (by kernel_rfl) (fun _ _ _ h => h) (Or.inl ⟨by rfl, ?_⟩) (by assumption) ?_
    rotate_left
    · (intro w hSw; (try dsimp only at hSw); go_simp; try with_reducible rfl)
    try simp only [Act.put, List.setIfInBounds_toArray, List.set_cons_zero, List.set_cons_succ]
    refine wpAnyH_take (i := 33) (oi := { dst := some 68, op := Go.Op.load 3 (Go.Operand.tmp 67), type := 3, pos := "laws.go:418", after := #[{ on := 32, ground := Go.Ground.data }, { on := 21, ground := Go.Ground.guard }], guard := some (21, false) }) (v := ?_) rfl (by kernel_rfl) (by kernel_rfl) (by kernel_rfl) (fun _ _ _ h => h) (Or.inl ⟨by rfl, ?_⟩) (by assumption) ?_
    rotate_left
    · (intro w hSw; (try dsimp only at hSw); go_simp; try with_reducible rfl)
    try simp only [Act.put, List.setIfInBounds_toArray, List.set_cons_zero, List.set_cons_succ]
    refine wpAnyH_take (i := 34) (oi := { dst := some 69, op := Go.Op.binOp Go.BinOp.neq 3 (Go.Operand.tmp 62) (Go.Operand.tmp 68) 3, type := 4, pos := "laws.go:418", after := #[{ on := 27, ground := Go.Ground.data }, { on := 33, ground := Go.Ground.data }, { on := 21, ground := Go.Ground.guard }], guard := some (21, false) }) (v := ?_) rfl (by kernel_rfl) (by kernel_rfl) (by kernel_rfl) (fun _ _ _ h => h) (Or.inl ⟨by rfl, ?_⟩) (by assumption) ?_
    rotate_left
    · (intro w hSw; (try dsimp only at hSw); go_simp; try with_reducible rfl)
    try simp only [Act.put, List.setIfInBounds_toArray, List.set_cons_zero, List.set_cons_succ]
    refine wpAnyH_take (i := 35) (oi := { dst := some 70, op := Go.Op.pick (Go.Operand.tmp 56) (Go.Operand.const (Go.Value.bool true)) (Go.Operand.tmp 69), type := 4, pos := "laws.go:418", after := #[{ on := 21, ground := Go.Ground.data }, { on := 34, ground := Go.Ground.data }], guard := none }) (v := ?_) rfl (by kernel_rfl) (by kernel_rfl) (by kernel_rfl) (fun _ _ _ h => h) (Or.inl ⟨by rfl, ?_⟩) (by assumption) ?_
    rotate_left
    · (intro w hSw; (try dsimp only at hSw); go_simp; try with_reducible rfl)
    try simp only [Act.put, List.setIfInBounds_toArray, List.set_cons_zero, List.set_cons_succ]
    refine wpAnyH_take (i := 36) (oi := { dst := some 71, op := Go.Op.move (Go.Operand.tmp 70), type := 4, pos := "laws.go:418", after := #[{ on := 35, ground := Go.Ground.data }, { on := 21, ground := Go.Ground.chain }], guard := none }) (v := ?_) rfl (by kernel_rfl) (by kernel_rfl) (by kernel_rfl) (fun _ _ _ h => h) (Or.inl ⟨by rfl, ?_⟩) (by assumption) ?_
    rotate_left
    · (intro w hSw; (try dsimp only at hSw); go_simp; try with_reducible rfl)
    try simp only [Act.put, List.setIfInBounds_toArray, List.set_cons_zero, List.set_cons_succ]
    refine wpAnyH_take (i := 37) (oi := { dst := some 72, op := Go.Op.move (Go.Operand.tmp 6), type := 28, pos := "laws.go:418", after := #[{ on := 36, ground := Go.Ground.guard }], guard := some (36, false) }) (v := ?_) rfl (by kernel_rfl) (by kernel_rfl) (by kernel_rfl) (fun _ _ _ h => h) (Or.inl ⟨by rfl, ?_⟩) (by assumption) ?_
    rotate_left
    · (intro w hSw; (try dsimp only at hSw); go_simp; try with_reducible rfl)
    try simp only [Act.put, List.setIfInBounds_toArray, List.set_cons_zero, List.set_cons_succ]
    refine wpAnyH_take (i := 39) (oi := { dst := some 74, op := Go.Op.move (Go.Operand.tmp 6), type := 28, pos := "laws.go:418", after := #[{ on := 36, ground := Go.Ground.guard }], guard := some (36, false) }) (v := ?_) rfl (by kernel_rfl) (by kernel_rfl) (by kernel_rfl) (fun _ _ _ h => h) (Or.inl ⟨by rfl, ?_⟩) (by assumption) ?_
    rotate_left
    · (intro w hSw; (try dsimp only at hSw); go_simp; try with_reducible rfl)
    try simp only [Act.put, List.setIfInBounds_toArray, List.set_cons_zero, List.set_cons_succ]
    refine wpAnyH_take (i := 40) (oi := { dst := some 75, op := Go.Op.call { callee := Go.Callee.builtin Go.Builtin.len, args := #[Go.Operand.tmp 74], argTypes := #[28] }, type := 3, pos := "laws.go:418", after := #[{ on := 39, ground := Go.Ground.data }, { on := 36, ground := Go.Ground.guard }], guard := some (36, false) }) (v := ?_) rfl (by kernel_rfl) (by kernel_rfl) (by kernel_rfl) (fun _ _ _ h => h) (Or.inl ⟨by rfl, ?_⟩) (by assumption) ?_
    rotate_left
    · (intro w hSw; (try dsimp only at hSw); go_simp; try with_reducible rfl)
    try simp only [Act.put, List.setIfInBounds_toArray, List.set_cons_zero, List.set_cons_succ]
    refine wpAnyH_take (i := 41) (oi := { dst := some 76, op := Go.Op.move (Go.Operand.tmp 7), type := 28, pos := "laws.go:418", after := #[{ on := 36, ground := Go.Ground.guard }], guard := some (36, false) }) (v := ?_) rfl (by kernel_rfl) (by kernel_rfl) (by kernel_rfl) (fun _ _ _ h => h) (Or.inl ⟨by rfl, ?_⟩) (by assumption) ?_
    rotate_left
    · (intro w hSw; (try dsimp only at hSw); go_simp; try with_reducible rfl)
    try simp only [Act.put, List.setIfInBounds_toArray, List.set_cons_zero, List.set_cons_succ]
    refine wpAnyH_take (i := 42) (oi := { dst := some 77, op := Go.Op.call { callee := Go.Callee.builtin Go.Builtin.len, args := #[Go.Operand.tmp 76], argTypes := #[28] }, type := 3, pos := "laws.go:418", after := #[{ on := 41, ground := Go.Ground.data }, { on := 36, ground := Go.Ground.guard }], guard := some (36, false) }) (v := ?_) rfl (by kernel_rfl) (by kernel_rfl) (by kernel_rfl) (fun _ _ _ h => h) (Or.inl ⟨by rfl, ?_⟩) (by assumption) ?_
    rotate_left
    · (intro w hSw; (try dsimp only at hSw); go_simp; try with_reducible rfl)
    try simp only [Act.put, List.setIfInBounds_toArray, List.set_cons_zero, List.set_cons_succ]
    refine wpAnyH_take (i := 43) (oi := { dst := some 78, op := Go.Op.binOp Go.BinOp.sub 3 (Go.Operand.tmp 75) (Go.Operand.tmp 77) 3, type := 3, pos := "laws.go:418", after := #[{ on := 40, ground := Go.Ground.data }, { on := 42, ground := Go.Ground.data }, { on := 36, ground := Go.Ground.guard }], guard := some (36, false) }) (v := ?_) rfl (by kernel_rfl) (by kernel_rfl) (by kernel_rfl) (fun _ _ _ h => h) (Or.inl ⟨by rfl, ?_⟩) (by assumption) ?_
    rotate_left
    · (intro w hSw; (try dsimp only at hSw); go_simp; try with_reducible rfl)
    try simp only [Act.put, List.setIfInBounds_toArray, List.set_cons_zero, List.set_cons_succ]
    refine wpAnyH_ready (rs := [38]) (by kernel_rfl) (by simp) ?_
    refine AllReadyH.cons (o := { dst := some 73, op := Go.Op.call { callee := Go.Callee.value (Go.Operand.func 14), args := #[Go.Operand.tmp 72], argTypes := #[28] }, type := 3, pos := "laws.go:418", after := #[{ on := 37, ground := Go.Ground.data }, { on := 36, ground := Go.Ground.chain }, { on := 36, ground := Go.Ground.guard }], guard := some (36, false) }) rfl (fun K38 hK38 => ?_) AllReadyH.nil
    go_simp
    (refine (A5.out (some ⟨gC, 0, none⟩) (nc + 1) cC _ rfl (by omega) (ints_own hq5.out.2.2.1).1).mono ?_; rintro e v2 ⟨rfl, hb6⟩; have hq6 := Lib.hid (hq5.out.call hb6); have r1 := own_cellI hq6.out.2.2.1 HC0.out; have r2 := own_cellI hq6.out.2.2.1 HC1.out; have r3 := own_cellI hq6.out.2.2.2.1 HE0.out; have r4 := own_cellI hq6.out.2.2.2.1 HE1.out; clear hb6)
    go_wp2_with fail
    refine hK38.out _ _ ?_ (fun hHeld2 => ?_)
    · (try dsimp only); go_keep
    clear hK38 K38 hHeld1
    try simp only [Act.put, List.setIfInBounds_toArray, List.set_cons_zero, List.set_cons_succ]
    refine wpAnyH_take (i := 44) (oi := { dst := some 79, op := Go.Op.binOp Go.BinOp.neq 3 (Go.Operand.tmp 73) (Go.Operand.tmp 78) 3, type := 4, pos := "laws.go:418", after := #[{ on := 38, ground := Go.Ground.data }, { on := 43, ground := Go.Ground.data }, { on := 36, ground := Go.Ground.guard }], guard := some (36, false) }) (v := ?_) rfl (by kernel_rfl) (by kernel_rfl) (by kernel_rfl) (fun _ _ _ h => h) (Or.inl ⟨by rfl, ?_⟩) (by assumption) ?_
    rotate_left
    · (intro w hSw; (try dsimp only at hSw); go_simp; try with_reducible rfl)
    try simp only [Act.put, List.setIfInBounds_toArray, List.set_cons_zero, List.set_cons_succ]
    refine wpAnyH_take (i := 45) (oi := { dst := some 80, op := Go.Op.pick (Go.Operand.tmp 71) (Go.Operand.const (Go.Value.bool true)) (Go.Operand.tmp 79), type := 4, pos := "laws.go:418", after := #[{ on := 36, ground := Go.Ground.data }, { on := 44, ground := Go.Ground.data }], guard := none }) (v := ?_) rfl (by kernel_rfl) (by kernel_rfl) (by kernel_rfl) (fun _ _ _ h => h) (Or.inl ⟨by rfl, ?_⟩) (by assumption) ?_
    rotate_left
    · (intro w hSw; (try dsimp only at hSw); go_simp; try with_reducible rfl)
    try simp only [Act.put, List.setIfInBounds_toArray, List.set_cons_zero, List.set_cons_succ]
    refine wpAnyH_take (i := 46) (oi := { dst := some 81, op := Go.Op.move (Go.Operand.tmp 80), type := 4, pos := "laws.go:418", after := #[{ on := 45, ground := Go.Ground.data }, { on := 38, ground := Go.Ground.chain }], guard := none }) (v := ?_) rfl (by kernel_rfl) (by kernel_rfl) (by kernel_rfl) (fun _ _ _ h => h) (Or.inl ⟨by rfl, ?_⟩) (by assumption) ?_
    rotate_left
    · (intro w hSw; (try dsimp only at hSw); go_simp; try with_reducible rfl)
    try simp only [Act.put, List.setIfInBounds_toArray, List.set_cons_zero, List.set_cons_succ]
    refine wpAnyH_take (i := 47) (oi := { dst := some 82, op := Go.Op.move (Go.Operand.tmp 8), type := 28, pos := "laws.go:418", after := #[{ on := 46, ground := Go.Ground.guard }], guard := some (46, false) }) (v := ?_) rfl (by kernel_rfl) (by kernel_rfl) (by kernel_rfl) (fun _ _ _ h => h) (Or.inl ⟨by rfl, ?_⟩) (by assumption) ?_
    rotate_left
    · (intro w hSw; (try dsimp only at hSw); go_simp; try with_reducible rfl)
    try simp only [Act.put, List.setIfInBounds_toArray, List.set_cons_zero, List.set_cons_succ]
    refine wpAnyH_take (i := 48) (oi := { dst := some 83, op := Go.Op.call { callee := Go.Callee.builtin Go.Builtin.len, args := #[Go.Operand.tmp 82], argTypes := #[28] }, type := 3, pos := "laws.go:418", after := #[{ on := 47, ground := Go.Ground.data }, { on := 46, ground := Go.Ground.guard }], guard := some (46, false) }) (v := ?_) rfl (by kernel_rfl) (by kernel_rfl) (by kernel_rfl) (fun _ _ _ h => h) (Or.inl ⟨by rfl, ?_⟩) (by assumption) ?_
    rotate_left
    · (intro w hSw; (try dsimp only at hSw); go_simp; try with_reducible rfl)
    try simp only [Act.put, List.setIfInBounds_toArray, List.set_cons_zero, List.set_cons_succ]
    refine wpAnyH_take (i := 49) (oi := { dst := some 84, op := Go.Op.move (Go.Operand.tmp 7), type := 28, pos := "laws.go:418", after := #[{ on := 46, ground := Go.Ground.guard }], guard := some (46, false) }) (v := ?_) rfl (by kernel_rfl) (by kernel_rfl) (by kernel_rfl) (fun _ _ _ h => h) (Or.inl ⟨by rfl, ?_⟩) (by assumption) ?_
    rotate_left
    · (intro w hSw; (try dsimp only at hSw); go_simp; try with_reducible rfl)
    try simp only [Act.put, List.setIfInBounds_toArray, List.set_cons_zero, List.set_cons_succ]
    refine wpAnyH_take (i := 50) (oi := { dst := some 85, op := Go.Op.call { callee := Go.Callee.builtin Go.Builtin.len, args := #[Go.Operand.tmp 84], argTypes := #[28] }, type := 3, pos := "laws.go:418", after := #[{ on := 49, ground := Go.Ground.data }, { on := 46, ground := Go.Ground.guard }], guard := some (46, false) }) (v := ?_) rfl (by kernel_rfl) (by kernel_rfl) (by kernel_rfl) (fun _ _ _ h => h) (Or.inl ⟨by rfl, ?_⟩) (by assumption) ?_
    rotate_left
    · (intro w hSw; (try dsimp only at hSw); go_simp; try with_reducible rfl)
    try simp only [Act.put, List.setIfInBounds_toArray, List.set_cons_zero, List.set_cons_succ]
    refine wpAnyH_take (i := 51) (oi := { dst := some 86, op := Go.Op.binOp Go.BinOp.sub 3 (Go.Operand.tmp 85) (Go.Operand.const (Go.Value.int Go.IntKind.i64 1)) 3, type := 3, pos := "laws.go:418", after := #[{ on := 50, ground := Go.Ground.data }, { on := 46, ground := Go.Ground.guard }], guard := some (46, false) }) (v := ?_) rfl (by kernel_rfl) (by kernel_rfl) (by kernel_rfl) (fun _ _ _ h => h) (Or.inl ⟨by rfl, ?_⟩) (by assumption) ?_
    rotate_left
    · (intro w hSw; (try dsimp only at hSw); go_simp; try with_reducible rfl)
    try simp only [Act.put, List.setIfInBounds_toArray, List.set_cons_zero, List.set_cons_succ]
    refine wpAnyH_take (i := 52) (oi := { dst := some 87, op := Go.Op.binOp Go.BinOp.neq 3 (Go.Operand.tmp 83) (Go.Operand.tmp 86) 3, type := 4, pos := "laws.go:418", after := #[{ on := 48, ground := Go.Ground.data }, { on := 51, ground := Go.Ground.data }, { on := 46, ground := Go.Ground.guard }], guard := some (46, false) }) (v := ?_) rfl (by kernel_rfl) (by kernel_rfl) (by kernel_rfl) (fun _ _ _ h => h) (Or.inl ⟨by rfl, ?_⟩) (by assumption) ?_
    rotate_left
    · (intro w hSw; (try dsimp only at hSw); go_simp; try with_reducible rfl)
    try simp only [Act.put, List.setIfInBounds_toArray, List.set_cons_zero, List.set_cons_succ]
    refine wpAnyH_take (i := 53) (oi := { dst := some 88, op := Go.Op.pick (Go.Operand.tmp 81) (Go.Operand.const (Go.Value.bool true)) (Go.Operand.tmp 87), type := 4, pos := "laws.go:418", after := #[{ on := 46, ground := Go.Ground.data }, { on := 52, ground := Go.Ground.data }], guard := none }) (v := ?_) rfl (by kernel_rfl) (by kernel_rfl) (by kernel_rfl) (fun _ _ _ h => h) (Or.inl ⟨by rfl, ?_⟩) (by assumption) ?_
    rotate_left
    · (intro w hSw; (try dsimp only at hSw); go_simp; try with_reducible rfl)
    try simp only [Act.put, List.setIfInBounds_toArray, List.set_cons_zero, List.set_cons_succ]
    refine wpAnyH_done (by kernel_rfl) ?_ _
    clear hq4 hq5 p1 p2 p3 p4 q1 q2 q3 q4
    obtain ⟨m0, m1, m2⟩ := hq6.out.2.1.1
    go_wp2_with fail
    refine (A6.out AF me cF _ HnF.out (by omega) (ints_own hq6.out.2.2.2.2).1).mono ?_
    rintro e w7 ⟨rfl, hb7⟩
    have hq7 := Lib.hid (hq6.out.call hb7)
    clear hb7 hq6 m0 m1 m2 r1 r2 r3 r4
    obtain ⟨m0, m1, m2⟩ := hq7.out.2.1.1
    have r2 : w7.cell? ⟨gC, nc, none⟩ = some (.int .i64 b) := own_cellI hq7.out.2.2.1 HC1.out
    go_wp2_with fail
    try simp only [List.cons_append, List.nil_append, List.append_eq]
    refine wp_region_held_drew (S := (fun w' => w'.cell? ⟨gC, nc, none⟩ = some (.int .i64 b) ∧ w'.cell? ⟨M, 0, none⟩ = some (.int .i64 x) ∧ w'.cell? ⟨M, 1, none⟩ = some (.int .i64 y) ∧ w'.cell? ⟨M, 2, none⟩ = some (.int .i64 z))) (by kernel_rfl) ?_ (fun hHeld0 => ?_)
    · (try dsimp only); go_keep
    refine wpAnyH_take (i := 0) (oi := { dst := some 97, op := Go.Op.load 27 (Go.Operand.tmp 3), type := 27, pos := "laws.go:422", after := #[], guard := none }) (v := ?_) rfl (by kernel_rfl) (by kernel_rfl) (by kernel_rfl) (fun _ _ _ h => h) (Or.inl ⟨by rfl, ?_⟩) (by assumption) ?_
    rotate_left
    · (intro w hSw; (try dsimp only at hSw); go_simp; try with_reducible rfl)
    try simp only [Act.put, List.setIfInBounds_toArray, List.set_cons_zero, List.set_cons_succ]
    refine wpAnyH_take (i := 1) (oi := { dst := some 98, op := Go.Op.move (Go.Operand.tmp 4), type := 3, pos := "laws.go:422", after := #[], guard := none }) (v := ?_) rfl (by kernel_rfl) (by kernel_rfl) (by kernel_rfl) (fun _ _ _ h => h) (Or.inl ⟨by rfl, ?_⟩) (by assumption) ?_
    rotate_left
    · (intro w hSw; (try dsimp only at hSw); go_simp; try with_reducible rfl)
    try simp only [Act.put, List.setIfInBounds_toArray, List.set_cons_zero, List.set_cons_succ]
    refine wpAnyH_take (i := 2) (oi := { dst := some 99, op := Go.Op.move (Go.Operand.tmp 6), type := 28, pos := "laws.go:422", after := #[], guard := none }) (v := ?_) rfl (by kernel_rfl) (by kernel_rfl) (by kernel_rfl) (fun _ _ _ h => h) (Or.inl ⟨by rfl, ?_⟩) (by assumption) ?_
    rotate_left
    · (intro w hSw; (try dsimp only at hSw); go_simp; try with_reducible rfl)
    try simp only [Act.put, List.setIfInBounds_toArray, List.set_cons_zero, List.set_cons_succ]
    refine wpAnyH_take (i := 3) (oi := { dst := some 100, op := Go.Op.move (Go.Operand.tmp 6), type := 28, pos := "laws.go:422", after := #[], guard := none }) (v := ?_) rfl (by kernel_rfl) (by kernel_rfl) (by kernel_rfl) (fun _ _ _ h => h) (Or.inl ⟨by rfl, ?_⟩) (by assumption) ?_
    rotate_left
    · (intro w hSw; (try dsimp only at hSw); go_simp; try with_reducible rfl)
    try simp only [Act.put, List.setIfInBounds_toArray, List.set_cons_zero, List.set_cons_succ]
    refine wpAnyH_take (i := 4) (oi := { dst := some 101, op := Go.Op.call { callee := Go.Callee.builtin Go.Builtin.len, args := #[Go.Operand.tmp 100], argTypes := #[28] }, type := 3, pos := "laws.go:422", after := #[{ on := 3, ground := Go.Ground.data }], guard := none }) (v := ?_) rfl (by kernel_rfl) (by kernel_rfl) (by kernel_rfl) (fun _ _ _ h => h) (Or.inl ⟨by rfl, ?_⟩) (by assumption) ?_
    rotate_left
    · (intro w hSw; (try dsimp only at hSw); go_simp; try with_reducible rfl)
    try simp only [Act.put, List.setIfInBounds_toArray, List.set_cons_zero, List.set_cons_succ]
    refine wpAnyH_take (i := 5) (oi := { dst := some 102, op := Go.Op.binOp Go.BinOp.sub 3 (Go.Operand.tmp 101) (Go.Operand.const (Go.Value.int Go.IntKind.i64 1)) 3, type := 3, pos := "laws.go:422", after := #[{ on := 4, ground := Go.Ground.data }], guard := none }) (v := ?_) rfl (by kernel_rfl) (by kernel_rfl) (by kernel_rfl) (fun _ _ _ h => h) (Or.inl ⟨by rfl, ?_⟩) (by assumption) ?_
    rotate_left
    · (intro w hSw; (try dsimp only at hSw); go_simp; try with_reducible rfl)
    try simp only [Act.put, List.setIfInBounds_toArray, List.set_cons_zero, List.set_cons_succ]
    refine wpAnyH_take (i := 6) (oi := { dst := some 103, op := Go.Op.indexAddr 28 (Go.Operand.tmp 99) (Go.Operand.tmp 102), type := 0, pos := "laws.go:422", after := #[{ on := 2, ground := Go.Ground.data }, { on := 5, ground := Go.Ground.data }], guard := none }) (v := ?_) rfl (by kernel_rfl) (by kernel_rfl) (by kernel_rfl) (fun _ _ _ h => h) (Or.inl ⟨by rfl, ?_⟩) (by assumption) ?_
    rotate_left
    · (intro w hSw; (try dsimp only at hSw); go_simp; try with_reducible rfl)
    try simp only [Act.put, List.setIfInBounds_toArray, List.set_cons_zero, List.set_cons_succ]
    refine wpAnyH_take (i := 7) (oi := { dst := some 104, op := Go.Op.load 3 (Go.Operand.tmp 103), type := 3, pos := "laws.go:422", after := #[{ on := 6, ground := Go.Ground.data }], guard := none }) (v := ?_) rfl (by kernel_rfl) (by kernel_rfl) (by kernel_rfl) (fun _ _ _ h => h) (Or.inl ⟨by rfl, ?_⟩) (by assumption) ?_
    rotate_left
    · (intro w hSw; (try dsimp only at hSw); go_simp; try with_reducible rfl)
    try simp only [Act.put, List.setIfInBounds_toArray, List.set_cons_zero, List.set_cons_succ]
    refine wpAnyH_ready (rs := [8]) (by kernel_rfl) (by simp) ?_
    refine AllReadyH.cons (o := { dst := some 105, op := Go.Op.call { callee := Go.Callee.value (Go.Operand.func 16), args := #[Go.Operand.tmp 97, Go.Operand.tmp 98, Go.Operand.tmp 104], argTypes := #[27, 3, 3] }, type := 33, pos := "laws.go:422", after := #[{ on := 0, ground := Go.Ground.data }, { on := 1, ground := Go.Ground.data }, { on := 7, ground := Go.Ground.data }], guard := none }) rfl (fun K8 hK8 => ?_) AllReadyH.nil
    go_simp
    (refine (A7.out _).mono ?_; rintro e v3 ⟨vX, rfl, ho8, hb8⟩; have hq8 := Lib.hid (hq7.out.dr.call hb8); have hX8 := Lib.hid ho8; obtain ⟨AX, cX, rfl⟩ := own_form ho8; have s2 := own_cellI hq8.out.2.2.1 HC1.out; obtain ⟨n0, n1, n2⟩ := hq8.out.2.1.1; clear hb8 ho8)
    go_wp2_with fail
    refine hK8.out _ _ ?_ (fun hHeld1 => ?_)
    · (try dsimp only); go_keep
    clear hK8 K8 hHeld0
    try simp only [Act.put, List.setIfInBounds_toArray, List.set_cons_zero, List.set_cons_succ]
    refine wpAnyH_take (i := 9) (oi := { dst := some 96, op := Go.Op.move (Go.Operand.tmp 105), type := 33, pos := "laws.go:422", after := #[{ on := 8, ground := Go.Ground.data }], guard := none }) (v := ?_) rfl (by kernel_rfl) (by kernel_rfl) (by kernel_rfl) (fun _ _ _ h => h) (Or.inl ⟨by rfl, ?_⟩) (by assumption) ?_
    rotate_left
    · (intro w hSw; (try dsimp only at hSw); go_simp; try with_reducible rfl)
    try simp only [Act.put, List.setIfInBounds_toArray, List.set_cons_zero, List.set_cons_succ]
    refine wpAnyH_take (i := 10) (oi := { dst := some 106, op := Go.Op.extract (Go.Operand.tmp 96) 0, type := 28, pos := "laws.go:422", after := #[{ on := 9, ground := Go.Ground.data }], guard := none }) (v := ?_) rfl (by kernel_rfl) (by kernel_rfl) (by kernel_rfl) (fun _ _ _ h => h) (Or.inl ⟨by rfl, ?_⟩) (by assumption) ?_
    rotate_left
    · (intro w hSw; (try dsimp only at hSw); go_simp; try with_reducible rfl)
    try simp only [Act.put, List.setIfInBounds_toArray, List.set_cons_zero, List.set_cons_succ]
    refine wpAnyH_take (i := 11) (oi := { dst := some 107, op := Go.Op.extract (Go.Operand.tmp 96) 1, type := 4, pos := "laws.go:422", after := #[{ on := 9, ground := Go.Ground.data }, { on := 12, ground := Go.Ground.gcOnly Go.Departure.lateStores }], guard := none }) (v := ?_) rfl (by kernel_rfl) (by kernel_rfl) (by kernel_rfl) (fun _ _ _ h => h) (Or.inl ⟨by rfl, ?_⟩) (by assumption) ?_
    rotate_left
    · (intro w hSw; (try dsimp only at hSw); go_simp; try with_reducible rfl)
    try simp only [Act.put, List.setIfInBounds_toArray, List.set_cons_zero, List.set_cons_succ]
    refine wpAnyH_take (i := 12) (oi := { dst := some 12, op := Go.Op.assign (Go.Operand.tmp 106), type := 28, pos := "laws.go:422", after := #[{ on := 10, ground := Go.Ground.data }, { on := 8, ground := Go.Ground.chain }, { on := 0, ground := Go.Ground.phase }, { on := 1, ground := Go.Ground.phase }, { on := 2, ground := Go.Ground.phase }, { on := 3, ground := Go.Ground.phase }, { on := 4, ground := Go.Ground.phase }, { on := 5, ground := Go.Ground.phase }, { on := 6, ground := Go.Ground.phase }, { on := 7, ground := Go.Ground.phase }, { on := 8, ground := Go.Ground.phase }, { on := 9, ground := Go.Ground.phase }, { on := 10, ground := Go.Ground.phase }, { on := 11, ground := Go.Ground.textOnly Go.Departure.lateStores }], guard := none }) (v := ?_) rfl (by kernel_rfl) (by kernel_rfl) (by kernel_rfl) (fun _ _ _ h => h) (Or.inl ⟨by rfl, ?_⟩) (by assumption) ?_
    rotate_left
    · (intro w hSw; (try dsimp only at hSw); go_simp; try with_reducible rfl)
    try simp only [Act.put, List.setIfInBounds_toArray, List.set_cons_zero, List.set_cons_succ]
    refine wpAnyH_take (i := 13) (oi := { dst := some 13, op := Go.Op.assign (Go.Operand.tmp 107), type := 4, pos := "laws.go:422", after := #[{ on := 11, ground := Go.Ground.data }, { on := 12, ground := Go.Ground.chain }, { on := 0, ground := Go.Ground.phase }, { on := 1, ground := Go.Ground.phase }, { on := 2, ground := Go.Ground.phase }, { on := 3, ground := Go.Ground.phase }, { on := 4, ground := Go.Ground.phase }, { on := 5, ground := Go.Ground.phase }, { on := 6, ground := Go.Ground.phase }, { on := 7, ground := Go.Ground.phase }, { on := 8, ground := Go.Ground.phase }, { on := 9, ground := Go.Ground.phase }, { on := 10, ground := Go.Ground.phase }, { on := 11, ground := Go.Ground.phase }, { on := 12, ground := Go.Ground.phase }], guard := none }) (v := ?_) rfl (by kernel_rfl) (by kernel_rfl) (by kernel_rfl) (fun _ _ _ h => h) (Or.inl ⟨by rfl, ?_⟩) (by assumption) ?_
    rotate_left
    · (intro w hSw; (try dsimp only at hSw); go_simp; try with_reducible rfl)
    try simp only [Act.put, List.setIfInBounds_toArray, List.set_cons_zero, List.set_cons_succ]
    refine wpAnyH_done (by kernel_rfl) ?_ _
    clear hq7 r2 m0 m1 m2
    cases hip : ipB x y z with
    | true =>
      rw [hip] at A8 Hpw
      obtain rfl : G = F := Hpw.out rfl
      clear hip
      go_wp2_with fail
      refine (A8.out _).mono ?_
      rintro e w9 ⟨rfl, hb9⟩
      have hq9 := Lib.hid (hq8.out.call hb9)
      have hX9 := Lib.hid (own_call hX8.out hb9)
      rw [HnF.out] at hX9
      clear hb9 hq8 hX8 s2 n0 n1 n2
      rw [HnF.out]
      go_wp2_with fail
      refine (hsame.out _ _ _ _ me G _ HnF.out (by omega) hq9.out.2.2.2.2 hX9.out).mono ?_
      rintro e w10 ⟨rfl, d10, rfl⟩
      have hqA := Lib.hid (hq9.out.drs d10)
      clear hq9 hX9
      go_wp2_with fail
      refine (A9.out (some ⟨gE, 0, none⟩) (me + 1) cE _ HnE.out (by omega) (ints_own hqA.out.2.2.2.1).1).mono ?_
      rintro e w15 ⟨v15, rfl, ho15, hb15⟩
      have hq15 := Lib.hid (hqA.out.call hb15)
      rw [HnE.out] at ho15
      have hr15 := Lib.hid ho15
      obtain ⟨A15, c15, rfl⟩ := own_form ho15
      clear ho15 hb15 hqA
      go_wp2_with fail
      refine (hsame.out _ _ _ _ (me + 1) E _ HnE.out (by omega) hr15.out hq15.out.2.2.2.1).mono ?_
      rintro e w16 ⟨rfl, d16, rfl⟩
      go_wp2_with fail
      go_ret
      exact HK.out _ (below_draws hq15.out.1 _)
    | false =>
      rw [hip] at A8
      clear hip Hpw hX8
      go_wp2_with fail
      refine (A8.out _).mono ?_
      rintro e w9 ⟨rfl, hb9⟩
      have hqB := Lib.hid (hq8.out.call hb9)
      clear hb9 hq8 s2 n0 n1 n2
      go_wp2_with fail
      refine (A9.out (some ⟨gE, 0, none⟩) (me + 1) cE _ HnE.out (by omega) (ints_own hqB.out.2.2.2.1).1).mono ?_
      rintro e w15 ⟨v15, rfl, ho15, hb15⟩
      have hq15 := Lib.hid (hqB.out.call hb15)
      rw [HnE.out] at ho15
      have hr15 := Lib.hid ho15
      obtain ⟨A15, c15, rfl⟩ := own_form ho15
      clear ho15 hb15 hqB
      go_wp2_with fail
      refine (hsame.out _ _ _ _ (me + 1) E _ HnE.out (by omega) hr15.out hq15.out.2.2.2.1).mono ?_
      rintro e w16 ⟨rfl, d16, rfl⟩
      go_wp2_with fail
      go_ret
      exact HK.out _ (below_draws hq15.out.1 _)
end Go.Proofs.Ythfcemihaoijgaa.fnErased
