/- The law of ways: its walk, over the contracts of the program's functions. -/
import Derived.Test.YteigidafabnjpaaWayP
import Derived.Test.YteigidafabnjpaaListK
import Derived.Test.YteigidafabnjpaaReachC
namespace Go.Proofs.Yteigidafabnjpaa.fnWays
open Go.ChangeShapes Go.WideShapes Go.ChangeAt Go.RowKit
open draw gridP gridC bitP mazeP mazeC mazeM mazeE intsP intK bigK reachC reachP reachM reachN reachD intA listK wayP
set_option linter.unusedVariables false


set_option maxRecDepth 100000 in
/-- Two slices that hold the same integers are equal. -/
theorem same_any (va vb : Value) (ba bb n : Nat) (xs : List Int) (w : World) (hx : xs.length = n) (hn : n ≤ 2000000)
    (ha : w.ownsRow ba 3 1 va n (icells xs)) (hb : w.ownsRow bb 3 1 vb n (icells xs)) :
    Calls Try.prog 19 #[va, vb] w fun e w' => e = .returned (.bool true) ∧ ∃ d, w' = w.drewN d := by
  obtain ⟨Aa, ca, rfl⟩ := own_form ha
  obtain ⟨Ab, cb, rfl⟩ := own_form hb
  by_cases h0 : n = 0
  · subst h0
    clear ha hb
    go_enter Try.func19, Try.ntmps19
    go_wp2_with fail
    go_loopw [5] (fun u5 wr => u5 = .int .i64 0 ∧ wr = w) (fun _ _ => 0)
    case atStart => exact ⟨rfl, rfl⟩
    case round =>
      obtain ⟨rfl, rfl⟩ := hrel
      go_wp2_with fail
      go_ret
      exact ⟨rfl, 0, rfl⟩
  · obtain ⟨ga, ca', ea, _, hga⟩ := own_some ha (by omega)
    obtain ⟨gb, cb', eb, _, hgb⟩ := own_some hb (by omega)
    injection ea with ea1 _ ea2
    injection eb with eb1 _ eb2
    subst ea1 ea2 eb1 eb2
    have HA := Lib.hid (fun k (hk : k < n) => ha.cellAt k (by omega))
    have HB := Lib.hid (fun k (hk : k < n) => hb.cellAt k (by omega))
    have hnn : ((n : Int) != (n : Int)) = false := by simp
    clear ha hb
    go_enter Try.func19, Try.ntmps19
    go_wp2_with fail
    go_loopw [5] (fun u5 wr => ∃ k d : Nat, k ≤ n ∧ u5 = .int .i64 k ∧ wr = w.drewN d) (fun u5 _ => n - (intOf u5).toNat)
    case atStart => exact ⟨0, 0, Nat.zero_le _, rfl, rfl⟩
    case round =>
      obtain ⟨k, d, hk, rfl, rfl⟩ := hrel
      by_cases hlt : k < n
      · have e : (icells xs)[k]? = some (.int .i64 (xs[k]'(by omega))) := icells_at xs k (by omega)
        have c1 : w.cell? ⟨ga, k, none⟩ = some (.int .i64 (xs[k]'(by omega))) := (HA.out k hlt).trans e
        have c2 : w.cell? ⟨gb, k, none⟩ = some (.int .i64 (xs[k]'(by omega))) := (HB.out k hlt).trans e
        have hk0 : (0 : Int) ≤ (k : Int) := Int.natCast_nonneg _
        have hk1 : (k : Int) < (n : Int) := by omega
        clear e
        generalize xs[k]'(by omega) = x at c1 c2
        have hxx : (x != x) = false := by simp
        go_wp2_with fail
        go_quiet (fail)
        go_wp2_with fail
        go_roundw
        case rel => exact ⟨k + 1, _, by omega, by go_num, rfl⟩
        case measure => simp [intOf]; omega
      · go_wp2_with fail
        go_ret
        exact ⟨rfl, d, rfl⟩

/-- A cell of a list of integers that is owned. -/
theorem reachI_cell {X : World} {base g c n i : Nat} {l : List Int} {d : Int} (h : X.ownsRow base 3 1 (.slice (some ⟨g, 0, none⟩) n c) n (icells l)) (hd : l[i]? = some d) : X.cell? ⟨g, i, none⟩ = some (.int .i64 d) := by
  have hi : i < l.length := (List.getElem?_eq_some_iff.1 hd).1
  have hn : n = l.length := by have := h.1; rw [icells_length] at this; omega
  rw [h.cellAt i (by omega), icells_at _ i hi]
  rw [List.getElem?_eq_getElem hi] at hd
  rw [Option.some.inj hd]

/-- The law's answer. -/
def Yes (w : World) (e : Ending) (w' : World) : Prop := e = .returned (.bool true) ∧ Below w.heap.size w w'
theorem yes_mk {w w' : World} (h : Below w.heap.size w w') : Yes w (.returned (.bool true)) w' := ⟨rfl, h⟩
/-- While the law goes on: the maze's box, the way. -/
def LS (w : World) (M : Nat) (x y z : Int) (l : List Int) (v : Value) (X : World) : Prop := Below w.heap.size w X ∧ MBox M x y z X ∧ X.ownsRow w.heap.size 3 1 v l.length (icells l)
theorem LS.call {w X X' : World} {M : Nat} {x y z : Int} {l : List Int} {v : Value} (h : LS w M x y z l v X) (hb : Below X.heap.size X X') : LS w M x y z l v X' := ⟨below_call h.1 hb, h.2.1.call hb, own_call h.2.2 hb⟩
theorem LS.dr {w X : World} {M : Nat} {x y z : Int} {l : List Int} {v : Value} (h : LS w M x y z l v X) : LS w M x y z l v X.drew := h.call ⟨rfl, rfl, rfl, Nat.le_refl _, fun _ _ => rfl⟩
theorem tx_size (l : List Int) : (wtB l).size ≤ l.length ∧ (wayB l = true → (wtB l).data.toList = txL l) := by
  unfold wtB
  split
  · rename_i h
    refine ⟨?_, fun _ => rfl⟩
    show (txL l).toArray.size ≤ _
    rw [List.size_toArray]; unfold txL; simp
  · rename_i h
    exact ⟨Nat.zero_le _, fun e => absurd e h⟩

set_option maxRecDepth 100000 in
set_option maxHeartbeats 2000000 in
theorem walk_at (A : Option Addr) (n c : Nat) (w : World) (hn : n ≤ maxLen) (hb : BytesIn w w.heap.size A n)
    (HWb : Hid (∀ x y z a b X, Calls Try.prog 12 #[.agg #[.int .i64 x, .int .i64 y, .int .i64 z], .int .i64 a, .int .i64 b] X (IntsB (wbL x y z a b) (wbB x y z a b) X)))
    (HDs : Hid (∀ x y z a b X, Calls Try.prog 13 #[.agg #[.int .i64 x, .int .i64 y, .int .i64 z], .int .i64 a, .int .i64 b] X (Nm (dsZ x y z a b) X)))
    (HWk : Hid (∀ x y z a A n c l X, l.length = n → n ≤ 1048576 → IntsIn X X.heap.size A l → Calls Try.prog 14 #[.agg #[.int .i64 x, .int .i64 y, .int .i64 z], .int .i64 a, .slice A n c] X (NmB (wwZ x y z a l) (wwB x y z a l) X)))
    (HRv : Hid (∀ A n c l X, l.length = n → n ≤ 1048576 → IntsIn X X.heap.size A l → Calls Try.prog 15 #[.slice A n c] X (Ints (rwL l) X)))
    (HCo : Hid (∀ x y z a A n c l X, l.length = n → n ≤ 1048576 → IntsIn X X.heap.size A l → Calls Try.prog 16 #[.agg #[.int .i64 x, .int .i64 y, .int .i64 z], .int .i64 a, .slice A n c] X (Ints (coL x y z a l) X)))
    (HTx : Hid (∀ A n c l X, l.length = n → n ≤ 1048576 → IntsIn X X.heap.size A l → Calls Try.prog 18 #[.slice A n c] X (Tx (wtB l) X)))
    (HPw : Hid (∀ (s : ByteArray) X, s.size ≤ 1048576 → Calls Try.prog 17 #[.string s] X (IntsB (pwL s.data.toList) (pwB s.data.toList) X))) :
    Calls Try.prog 3 #[.slice A n c] w (Yes w) := by
  have HK := @Lib.hid _ (fun w' h => @yes_mk w w' h)
  have HR := Lib.hid (Below.refl w.heap.size w)
  have HD := Lib.hid (drawCells_any A n c w hn hb)
  have HN := Lib.hid hn
  unfold maxLen at hn
  clear hb
  by_cases hbig : 1048576 < n
  · go_enter Try.func3, Try.ntmps3
    go_wp2_with fail
    refine (big_yes A n c w HN.out hbig).mono ?_
    rintro e w' ⟨rfl, rfl⟩
    go_wp2_with fail
    go_ret
    exact HK.out _ HR.out
  · go_enter Try.func3, Try.ntmps3
    go_wp2_with fail
    refine (big_no A n c w HN.out (by omega)).mono ?_
    rintro e w' ⟨rfl, rfl⟩
    go_wp2_with fail
    refine HD.out.mono ?_
    rintro e w1 ⟨x, y, z, a, b, hv, ha, hb, rfl, hb1⟩
    have hha : hasB x y z a = true := decide_eq_true ⟨hv, by omega, ha⟩
    have hhb : hasB x y z b = true := decide_eq_true ⟨hv, by omega, hb⟩
    have hz1 := hb1.size
    have hbl0 := @Lib.hid _ (fun o => hb1.alloc hz1 o)
    have hxm0 := @Lib.hid _ (fun T => mbox_new x y z w1 T)
    have A1 := Lib.hid (HWb.out x y z a b)
    have A2 := Lib.hid (HDs.out x y z a b)
    have hlen := @wb_len x y z a b
    by_cases hwb : wbB x y z a b = true
    · obtain ⟨f1, f2, f3, f4, f5, f6, f7, f8, f9, f10⟩ := wayP.ways hha hhb hwb
      have A3 := Lib.hid (fun A n c X => HWk.out x y z a A n c (wbL x y z a b) X)
      have A4 := Lib.hid (fun A n c X => HRv.out A n c (wbL x y z a b) X)
      have A5 := Lib.hid (fun A n c X => HWk.out x y z b A n c (rwL (wbL x y z a b)) X)
      have A6 := Lib.hid (fun A n c X => HCo.out x y z a A n c (wbL x y z a b) X)
      have A7 := Lib.hid (fun A n c X => HTx.out A n c (wbL x y z a b) X)
      have A8 := Lib.hid (fun X h => HPw.out (wtB (wbL x y z a b)) X h)
      have A9 := Lib.hid (fun A n c X => HRv.out A n c (rwL (wbL x y z a b)) X)
      obtain ⟨s1, s2⟩ := tx_size (wbL x y z a b)
      rw [hwb] at A1
      rw [f2, f3] at A3
      rw [f4, f5] at A5
      rw [s2 f9, (pw_tx f9).1, (pw_tx f9).2] at A8
      rw [f10] at A9
      have hrl : (rwL (wbL x y z a b)).length ≤ 16 := by unfold rwL; rw [if_pos f9, rv_len]; exact hlen
      have hsame := Lib.hid (fun va vb ba bb X => @same_any va vb ba bb (wbL x y z a b).length (wbL x y z a b) X rfl (by omega))
      rw [← f1] at A2 f6
      have F7 := Lib.hid f7
      have F8 := Lib.hid f8
      clear HWb HDs HWk HRv HCo HTx HPw HD HR hb1 hv ha hb hha hhb hz1 hwb f1 f2 f3 f4 f5 f7 f8 f9 f10 s2
      generalize wtB (wbL x y z a b) = tx at *
      generalize coL x y z a (wbL x y z a b) = co at *
      generalize rwL (wbL x y z a b) = rl at *
      generalize wbL x y z a b = l at *
      go_wp2_with fail
      refine (A1.out _).mono ?_
      rintro e w2 ⟨v, rfl, ho, hb2⟩
      have hls2 : Hid (LS w w1.heap.size x y z l v w2) := ⟨below_call (hbl0.out _) hb2, (hxm0.out _).call hb2, own_base ho (hbl0.out (.cells #[.int .i64 x, .int .i64 y, .int .i64 z] 27)).size⟩
      obtain ⟨Aw, cw, rfl⟩ := own_form ho
      clear ho hb2 hbl0 hxm0
      obtain ⟨m0, m1, m2⟩ := hls2.out.2.1.1
      go_wp2_with fail
      refine (A2.out _).mono ?_
      rintro e w3 ⟨rfl, hb3⟩
      have hls3 := Lib.hid (hls2.out.call hb3)
      clear hb3 hls2 m0 m1 m2
      obtain ⟨m0, m1, m2⟩ := hls3.out.2.1.1
      go_wp2_with fail
      refine (A3.out Aw _ cw _ rfl (by omega) (ints_own hls3.out.2.2).1).mono ?_
      rintro e w4 ⟨rfl, hb4⟩
      have hls4 := Lib.hid (hls3.out.call hb4)
      clear hb4 hls3 m0 m1 m2
      obtain ⟨m0, m1, m2⟩ := hls4.out.2.1.1
      go_wp2_with fail
      try simp only [List.cons_append, List.nil_append, List.append_eq]
      refine wp_region_held_drew (S := (fun w' => w'.cell? ⟨w1.heap.size, 0, none⟩ = some (.int .i64 x) ∧ w'.cell? ⟨w1.heap.size, 1, none⟩ = some (.int .i64 y) ∧ w'.cell? ⟨w1.heap.size, 2, none⟩ = some (.int .i64 z))) (by kernel_rfl) ?_ (fun hHeld0 => ?_)
      · (try dsimp only); go_keep
      refine wpAnyH_take (i := 0) (oi := { dst := some 47, op := Go.Op.load 27 (Go.Operand.tmp 3), type := 27, pos := "laws.go:246", after := #[], guard := none }) (v := ?_) rfl (by kernel_rfl) (by kernel_rfl) (by kernel_rfl) (fun _ _ _ h => h) (Or.inl ⟨by rfl, ?_⟩) (by assumption) ?_
      rotate_left
      · (intro w hSw; (try dsimp only at hSw); go_simp; try with_reducible rfl)
      try simp only [Act.put, List.setIfInBounds_toArray, List.set_cons_zero, List.set_cons_succ]
      refine wpAnyH_take (i := 1) (oi := { dst := some 48, op := Go.Op.move (Go.Operand.tmp 5), type := 3, pos := "laws.go:246", after := #[], guard := none }) (v := ?_) rfl (by kernel_rfl) (by kernel_rfl) (by kernel_rfl) (fun _ _ _ h => h) (Or.inl ⟨by rfl, ?_⟩) (by assumption) ?_
      rotate_left
      · (intro w hSw; (try dsimp only at hSw); go_simp; try with_reducible rfl)
      try simp only [Act.put, List.setIfInBounds_toArray, List.set_cons_zero, List.set_cons_succ]
      refine wpAnyH_take (i := 2) (oi := { dst := some 49, op := Go.Op.move (Go.Operand.tmp 6), type := 30, pos := "laws.go:246", after := #[], guard := none }) (v := ?_) rfl (by kernel_rfl) (by kernel_rfl) (by kernel_rfl) (fun _ _ _ h => h) (Or.inl ⟨by rfl, ?_⟩) (by assumption) ?_
      rotate_left
      · (intro w hSw; (try dsimp only at hSw); go_simp; try with_reducible rfl)
      try simp only [Act.put, List.setIfInBounds_toArray, List.set_cons_zero, List.set_cons_succ]
      refine wpAnyH_ready (rs := [3]) (by kernel_rfl) (by simp) ?_
      refine AllReadyH.cons (o := { dst := some 50, op := Go.Op.call { callee := Go.Callee.value (Go.Operand.func 15), args := #[Go.Operand.tmp 49], argTypes := #[30] }, type := 30, pos := "laws.go:246", after := #[{ on := 2, ground := Go.Ground.data }], guard := none }) rfl (fun K3 hK3 => ?_) AllReadyH.nil
      go_simp
      (refine (A4.out Aw _ cw _ rfl (by omega) (ints_own hls4.out.dr.2.2).1).mono ?_; rintro e v5 ⟨vr, rfl, ho5, hb5⟩; have hls5 := Lib.hid (hls4.out.dr.call hb5); obtain ⟨Ar, cr, rfl⟩ := own_form ho5; have HI5 := Lib.hid (ints_own ho5).1; obtain ⟨p0, p1, p2⟩ := hls5.out.2.1.1)
      go_wp2_with fail
      refine hK3.out _ _ ?_ (fun hHeld1 => ?_)
      · (try dsimp only); go_keep
      clear hK3 K3 hHeld0
      try simp only [Act.put, List.setIfInBounds_toArray, List.set_cons_zero, List.set_cons_succ]
      refine wpAnyH_ready (rs := [4]) (by kernel_rfl) (by simp) ?_
      refine AllReadyH.cons (o := { dst := some 51, op := Go.Op.call { callee := Go.Callee.value (Go.Operand.func 14), args := #[Go.Operand.tmp 47, Go.Operand.tmp 48, Go.Operand.tmp 50], argTypes := #[27, 3, 30] }, type := 34, pos := "laws.go:246", after := #[{ on := 0, ground := Go.Ground.data }, { on := 1, ground := Go.Ground.data }, { on := 3, ground := Go.Ground.data }, { on := 3, ground := Go.Ground.chain }], guard := none }) rfl (fun K4 hK4 => ?_) AllReadyH.nil
      go_simp
      (refine (A5.out Ar _ cr _ rfl (by omega) HI5.out).mono ?_; rintro e v6 ⟨rfl, hb6⟩; have hls6 := Lib.hid (hls5.out.call hb6); obtain ⟨r0, r1, r2⟩ := hls6.out.2.1.1)
      go_wp2_with fail
      refine hK4.out _ _ ?_ (fun hHeld2 => ?_)
      · (try dsimp only); go_keep
      clear hK4 K4 hHeld1
      try simp only [Act.put, List.setIfInBounds_toArray, List.set_cons_zero, List.set_cons_succ]
      refine wpAnyH_take (i := 5) (oi := { dst := some 46, op := Go.Op.move (Go.Operand.tmp 51), type := 34, pos := "laws.go:246", after := #[{ on := 4, ground := Go.Ground.data }], guard := none }) (v := ?_) rfl (by kernel_rfl) (by kernel_rfl) (by kernel_rfl) (fun _ _ _ h => h) (Or.inl ⟨by rfl, ?_⟩) (by assumption) ?_
      rotate_left
      · (intro w hSw; (try dsimp only at hSw); go_simp; try with_reducible rfl)
      try simp only [Act.put, List.setIfInBounds_toArray, List.set_cons_zero, List.set_cons_succ]
      refine wpAnyH_take (i := 6) (oi := { dst := some 52, op := Go.Op.extract (Go.Operand.tmp 46) 0, type := 3, pos := "laws.go:246", after := #[{ on := 5, ground := Go.Ground.data }], guard := none }) (v := ?_) rfl (by kernel_rfl) (by kernel_rfl) (by kernel_rfl) (fun _ _ _ h => h) (Or.inl ⟨by rfl, ?_⟩) (by assumption) ?_
      rotate_left
      · (intro w hSw; (try dsimp only at hSw); go_simp; try with_reducible rfl)
      try simp only [Act.put, List.setIfInBounds_toArray, List.set_cons_zero, List.set_cons_succ]
      refine wpAnyH_take (i := 7) (oi := { dst := some 53, op := Go.Op.extract (Go.Operand.tmp 46) 1, type := 4, pos := "laws.go:246", after := #[{ on := 5, ground := Go.Ground.data }, { on := 8, ground := Go.Ground.gcOnly Go.Departure.lateStores }], guard := none }) (v := ?_) rfl (by kernel_rfl) (by kernel_rfl) (by kernel_rfl) (fun _ _ _ h => h) (Or.inl ⟨by rfl, ?_⟩) (by assumption) ?_
      rotate_left
      · (intro w hSw; (try dsimp only at hSw); go_simp; try with_reducible rfl)
      try simp only [Act.put, List.setIfInBounds_toArray, List.set_cons_zero, List.set_cons_succ]
      refine wpAnyH_take (i := 8) (oi := { dst := some 11, op := Go.Op.assign (Go.Operand.tmp 52), type := 3, pos := "laws.go:246", after := #[{ on := 6, ground := Go.Ground.data }, { on := 4, ground := Go.Ground.chain }, { on := 0, ground := Go.Ground.phase }, { on := 1, ground := Go.Ground.phase }, { on := 2, ground := Go.Ground.phase }, { on := 3, ground := Go.Ground.phase }, { on := 4, ground := Go.Ground.phase }, { on := 5, ground := Go.Ground.phase }, { on := 6, ground := Go.Ground.phase }, { on := 7, ground := Go.Ground.textOnly Go.Departure.lateStores }], guard := none }) (v := ?_) rfl (by kernel_rfl) (by kernel_rfl) (by kernel_rfl) (fun _ _ _ h => h) (Or.inl ⟨by rfl, ?_⟩) (by assumption) ?_
      rotate_left
      · (intro w hSw; (try dsimp only at hSw); go_simp; try with_reducible rfl)
      try simp only [Act.put, List.setIfInBounds_toArray, List.set_cons_zero, List.set_cons_succ]
      refine wpAnyH_take (i := 9) (oi := { dst := some 12, op := Go.Op.assign (Go.Operand.tmp 53), type := 4, pos := "laws.go:246", after := #[{ on := 7, ground := Go.Ground.data }, { on := 8, ground := Go.Ground.chain }, { on := 0, ground := Go.Ground.phase }, { on := 1, ground := Go.Ground.phase }, { on := 2, ground := Go.Ground.phase }, { on := 3, ground := Go.Ground.phase }, { on := 4, ground := Go.Ground.phase }, { on := 5, ground := Go.Ground.phase }, { on := 6, ground := Go.Ground.phase }, { on := 7, ground := Go.Ground.phase }, { on := 8, ground := Go.Ground.phase }], guard := none }) (v := ?_) rfl (by kernel_rfl) (by kernel_rfl) (by kernel_rfl) (fun _ _ _ h => h) (Or.inl ⟨by rfl, ?_⟩) (by assumption) ?_
      rotate_left
      · (intro w hSw; (try dsimp only at hSw); go_simp; try with_reducible rfl)
      try simp only [Act.put, List.setIfInBounds_toArray, List.set_cons_zero, List.set_cons_succ]
      refine wpAnyH_done (by kernel_rfl) ?_ _
      clear hls4 hls5 m0 m1 m2 p0 p1 p2 HI5 ho5 hb5 hb6 A3 A5
      go_wp2_with fail
      refine (A6.out Aw _ cw _ rfl (by omega) (ints_own hls6.out.2.2).1).mono ?_
      rintro e w7 ⟨vc, rfl, ho7, hb7⟩
      have hls7 := Lib.hid (hls6.out.call hb7)
      have hco7 := Lib.hid ho7
      have hco8 : co.length = l.length + 1 := by omega
      obtain ⟨gc, cc, rfl, hgc, hgcs⟩ := own_some ho7 (by omega)
      clear ho7 hb7 hls6 r0 r1 r2 A6 hgc hgcs
      go_wp2_with fail
      refine (A7.out Aw _ cw _ rfl (by omega) (ints_own hls7.out.2.2).1).mono ?_
      rintro e w8 ⟨rfl, hb8⟩
      have hls8 := Lib.hid (hls7.out.call hb8)
      have hco9 := Lib.hid (own_call hco7.out hb8)
      clear hb8 hls7 hco7 A7
      go_wp2_with fail
      refine (A8.out _ (by omega)).mono ?_
      rintro e w9 ⟨vp, rfl, ho9, hb9⟩
      have hls9 := Lib.hid (hls8.out.call hb9)
      have hp9 := Lib.hid ho9
      have hc9 := Lib.hid (own_call hco9.out hb9)
      obtain ⟨Ap, cp, rfl⟩ := own_form ho9
      have hc0 : w9.cell? ⟨gc, 0, none⟩ = some (.int .i64 (a : Int)) := reachI_cell hc9.out F7.out
      have hc1 : w9.cell? ⟨gc, l.length, none⟩ = some (.int .i64 (b : Int)) := reachI_cell hc9.out F8.out
      have hcl : 0 < co.length := by omega
      have hcl2 : (l.length : Int) < (co.length : Int) := by omega
      have hl0 : (0 : Int) ≤ (l.length : Int) := Int.natCast_nonneg _
      have hwr : IntKind.i64.wrap ((l.length : Int) + 1) = (l.length : Int) + 1 := IntWalk.i64_in _ (by omega)
      have hcmp : ((co.length : Int) == (l.length : Int) + 1) = true := by simp; omega
      clear ho9 hb9 hls8 hco9 A8 f6 hco8
      go_wp2_with fail
      refine (hsame.out _ _ _ _ _ hp9.out hls9.out.2.2).mono ?_
      rintro e w10 ⟨rfl, d, rfl⟩
      have hls10 : Hid (LS w w1.heap.size x y z l (.slice Aw l.length cw) (w9.drewN d)) := hls9.out.call ⟨rfl, rfl, rfl, Nat.le_refl _, fun _ _ => rfl⟩
      generalize w9.drewN d = w11 at *
      clear hls9 hp9 hc9 hc0 hc1
      go_wp2_with fail
      refine (A4.out Aw _ cw _ rfl (by omega) (ints_own hls10.out.2.2).1).mono ?_
      rintro e w12 ⟨vr, rfl, ho12, hb12⟩
      have hls12 := Lib.hid (hls10.out.call hb12)
      obtain ⟨Ar2, cr2, rfl⟩ := own_form ho12
      have HI12 := Lib.hid (ints_own ho12).1
      clear ho12 hb12 hls10
      go_wp2_with fail
      refine (A9.out Ar2 _ cr2 _ rfl (by omega) HI12.out).mono ?_
      rintro e w13 ⟨vq, rfl, ho13, hb13⟩
      have hls13 := Lib.hid (hls12.out.call hb13)
      have hq13 := Lib.hid ho13
      obtain ⟨Aq, cq, rfl⟩ := own_form ho13
      clear ho13 hb13 hls12 HI12
      go_wp2_with fail
      refine (hsame.out _ _ _ _ _ hq13.out hls13.out.2.2).mono ?_
      rintro e w14 ⟨rfl, d2, rfl⟩
      go_wp2_with fail
      go_ret
      exact HK.out _ (below_draws hls13.out.1 _)
    · have hwf : wbB x y z a b = false := by simpa using hwb
      have hd0 : decide (dsZ x y z a b < 0) = true := by
        have h1 : ¬ 0 ≤ dsZ x y z a b := of_decide_eq_false hwf
        exact decide_eq_true (by omega)
      rw [hwf] at A1
      clear HWb HDs HWk HRv HCo HTx HPw HD HR hb1 hv ha hb hha hhb hz1 hwb hwf
      generalize dsZ x y z a b = dd at *
      generalize wbL x y z a b = l at *
      go_wp2_with fail
      refine (A1.out _).mono ?_
      rintro e w2 ⟨v, rfl, ho, hb2⟩
      have hls2 : Hid (LS w w1.heap.size x y z l v w2) := ⟨below_call (hbl0.out _) hb2, (hxm0.out _).call hb2, own_base ho (hbl0.out (.cells #[.int .i64 x, .int .i64 y, .int .i64 z] 27)).size⟩
      clear ho hb2 hbl0 hxm0
      obtain ⟨m0, m1, m2⟩ := hls2.out.2.1.1
      go_wp2_with fail
      refine (A2.out _).mono ?_
      rintro e w3 ⟨rfl, hb3⟩
      have hls3 := Lib.hid (hls2.out.call hb3)
      clear hb3 hls2 m0 m1 m2
      go_wp2_with fail
      go_ret
      exact HK.out _ hls3.out.1
end Go.Proofs.Yteigidafabnjpaa.fnWays
