/- The law of dead ends: its walk, over the contracts of the program's functions. -/
import Derived.Test.YtcoikcnijaniaaaDeads
import Derived.Test.YtcoikcnijaniaaaListK
import Derived.Test.YtcoikcnijaniaaaTreA
namespace Go.Proofs.Ytcoikcnijaniaaa.fnDeadEnds
open Go.ChangeShapes Go.WideShapes Go.ChangeAt Go.RowKit
open draw gridP gridC bitP mazeP mazeC mazeM mazeE intsP intK bigK reachP reachM reachN reachD forest intA listK treA deadP deadR
set_option linter.unusedVariables false

/-- The law's answer. -/
def Yes (w : World) (e : Ending) (w' : World) : Prop := e = .returned (.bool true) ∧ Below w.heap.size w w'
theorem yes_mk {w w' : World} (h : Below w.heap.size w w') : Yes w (.returned (.bool true)) w' := ⟨rfl, h⟩
theorem bq_mk {a b : Bool} {w : World} (h : b = a) : Ending.returned (.bool a) = Ending.returned (.bool b) ∧ w = w := ⟨by rw [h], rfl⟩
set_option maxRecDepth 100000 in
/-- Whether a number is in a list. -/
theorem has_any2 (A : Option Addr) (n c : Nat) (l : List Int) (u : Int) (W : World) (hn : l.length = n) (hm : n ≤ 1048576) (hi : IntsIn W W.heap.size A l) :
    Calls Try.prog 16 #[.slice A n c, .int .i64 u] W fun e w' => e = .returned (.bool (decide (u ∈ l))) ∧ W = w' := by
  have HY := Lib.hid hi
  have Hn := Lib.hid hn
  clear hi hn
  go_enter Try.func16, Try.ntmps16
  go_wp2_with fail
  go_loopw [5] (fun u5 wr => ∃ k : Nat, k ≤ n ∧ u5 = .int .i64 k ∧ (∀ j d, j < k → l[j]? = some d → d ≠ u) ∧ wr = W) (fun u5 _ => n - (intOf u5).toNat)
  case atStart => exact ⟨0, Nat.zero_le _, rfl, fun j d hj => absurd hj (by omega), rfl⟩
  case round =>
    obtain ⟨k, hk, rfl, hin, rfl⟩ := hrel
    have HIn := Lib.hid hin
    clear hin
    by_cases hkn : k < n
    · obtain ⟨v, hv, hmem⟩ : ∃ v, l[k]? = some v ∧ v ∈ l := by
        have hkl : k < l.length := by have := Hn.out; omega
        exact ⟨l[k], List.getElem?_eq_getElem hkl, List.getElem_mem hkl⟩
      obtain ⟨ad, rfl, hab, hcell⟩ := ints_cell HY.out hv
      have hk0 : (0 : Int) ≤ (k : Int) := Int.natCast_nonneg _
      have hk1 : (k : Int) < (n : Int) := by omega
      by_cases hd : v = u
      · have hc : (v == u) = true := by simpa using hd
        have HE : Hid (decide (u ∈ l) = true) := Lib.hid (decide_eq_true (by rw [← hd]; exact hmem))
        clear hd hv hmem
        go_wp2_with fail
        go_ret
        exact bq_mk HE.out
      · have hc : (v == u) = false := by simpa using hd
        have HN : Hid (∀ j d, j < k + 1 → l[j]? = some d → d ≠ u) := fun j d hj hl => by
          rcases Nat.lt_or_ge j k with h | h
          · exact HIn.out j d h hl
          · obtain rfl : j = k := by omega
            rw [hv] at hl; cases hl; exact hd
        clear hd hv hmem
        go_wp2_with fail
        go_roundw
        case rel => exact ⟨k + 1, by omega, by go_num, HN.out, by trivial⟩
        case measure => simp [intOf]; omega
    · obtain rfl : k = n := by omega
      have HE : Hid (decide (u ∈ l) = false) := Lib.hid (decide_eq_false fun h => by
        obtain ⟨j, hj⟩ := List.getElem?_of_mem h
        have := (List.getElem?_eq_some_iff.1 hj).1
        exact HIn.out j u (by have := Hn.out; omega) hj rfl)
      go_wp2_with fail
      go_ret
      exact bq_mk HE.out

/-- Two numbers in a slice, just made. -/
theorem two_in (X : World) (a b : Int) : IntsIn (X.alloc (.cells #[.int .i64 a, .int .i64 b] 3)) (X.alloc (.cells #[.int .i64 a, .int .i64 b] 3)).heap.size (some ⟨X.heap.size, 0, none⟩) [a, b] := by
  have := World.ownsRow_lit (base := X.heap.size) (e := 3) (size := 1) X #[.int .i64 a, .int .i64 b] 2 (Nat.le_refl _) (by decide) rfl
  exact (ints_own (l := [a, b]) this).1
theorem none_in (X : World) (B : Nat) : IntsIn X B none [] := fun h => absurd rfl h
/-- While the law goes on: the maze that was drawn, the one that is filled. -/
def LD (w : World) (M F : Nat) (x y z z' : Int) (X : World) : Prop := Below w.heap.size w X ∧ MBox M x y z X ∧ MBox F x y z' X
theorem LD.call {w X X' : World} {M F : Nat} {x y z z' : Int} (h : LD w M F x y z z' X) (hb : Below X.heap.size X X') : LD w M F x y z z' X' := ⟨below_call h.1 hb, h.2.1.call hb, h.2.2.call hb⟩
theorem LD.dr {w X : World} {M F : Nat} {x y z z' : Int} (h : LD w M F x y z z' X) : LD w M F x y z z' X.drew := h.call ⟨rfl, rfl, rfl, Nat.le_refl _, fun _ _ => rfl⟩

set_option maxRecDepth 100000 in
set_option maxHeartbeats 4000000 in
theorem walk_at (A : Option Addr) (n c : Nat) (w : World) (hn : n ≤ maxLen) (hb : BytesIn w w.heap.size A n)
    (HFd : Hid (∀ x y z A n c K X, K.length = n → n ≤ 1048576 → IntsIn X X.heap.size A K → Calls Try.prog 13 #[.agg #[.int .i64 x, .int .i64 y, .int .i64 z], .slice A n c] X (Mz x y (fdZ x y z K) X)))
    (HBs : Hid (∀ x y z X, Calls Try.prog 14 #[.agg #[.int .i64 x, .int .i64 y, .int .i64 z]] X (Nm (bsZ x y z) X)))
    (HDe : Hid (∀ x y z X, Calls Try.prog 15 #[.agg #[.int .i64 x, .int .i64 y, .int .i64 z]] X (Ints (deL x y z) X)))
    (HJn : Hid (∀ x y z X, Calls Try.prog 17 #[.agg #[.int .i64 x, .int .i64 y, .int .i64 z]] X (Ints (jnL x y z) X)))
    (HCp : Hid (∀ x y z X, Calls Try.prog 18 #[.agg #[.int .i64 x, .int .i64 y, .int .i64 z]] X (Nm (cpZ x y z) X)))
    (HDs : Hid (∀ x y z a b X, Calls Try.prog 19 #[.agg #[.int .i64 x, .int .i64 y, .int .i64 z], .int .i64 a, .int .i64 b] X (Nm (dsZ x y z a b) X)))
    (HCs : Hid (∀ x y z X, Calls Try.prog 20 #[.agg #[.int .i64 x, .int .i64 y, .int .i64 z]] X (Nm (csZ x y z) X))) :
    Calls Try.prog 3 #[.slice A n c] w (Yes w) := by
  have HK := @Lib.hid _ (fun w' h => @yes_mk w w' h)
  have HR := Lib.hid (Below.refl w.heap.size w)
  have HD := Lib.hid (drawPerfect_any A n c w hn hb)
  have HY := Lib.hid hb
  have HN := Lib.hid hn
  unfold maxLen at hn
  clear hb
  by_cases hbig : 1048576 < n
  · go_enter Try.func3, Try.ntmps3
    go_wp2_with fail
    refine (big_yes A n c w HN.out hbig).mono ?_
    rintro e w' ⟨rfl, rfl⟩
    go_wp2_with fail
    go_ret
    exact HK.out _ HR.out
  · go_enter Try.func3, Try.ntmps3
    go_wp2_with fail
    refine (big_no A n c w HN.out (by omega)).mono ?_
    rintro e w' ⟨rfl, rfl⟩
    go_wp2_with fail
    refine HD.out.mono ?_
    rintro e w1 ⟨x, y, o, hk, ⟨ho, hlp, hpt⟩, rfl, hb1⟩
    obtain ⟨h1, h2, h3, h4⟩ := id hk
    obtain ⟨n1, n2, n3⟩ := nn3 hk
    have HC : Hid (∀ X, Calls Try.prog 11 #[.agg #[.int .i64 x, .int .i64 y]] X (Nm (x * y) X)) := fun X => gridS.countCells_yes x y X h1 h2 h3 h4
    have HL := Lib.hid (fun a b ha hb => @deads x y o hk ho hlp hpt a b ha hb)
    rw [n1] at HC
    have hz1 := hb1.size
    have hbl0 := @Lib.hid _ (fun T => (hb1.alloc hz1 (.cells #[.int .i64 x, .int .i64 y, .int .i64 o] T)))
    have hxm0 := @Lib.hid _ (fun T => mbox_new x y o w1 T)
    have HY1 := Lib.hid (fun X (h : Below w.heap.size w X) => (HY.out.keep (w' := X) fun p hp => h.cell hp))
    have A2 := Lib.hid (HBs.out x y o)
    have A3 := Lib.hid (HDe.out x y o)
    have A4 := Lib.hid (HJn.out x y o)
    have A7 := Lib.hid (HCs.out x y o)
    have hcsb : csZ x y o ≤ x * y := (deads hk ho hlp hpt (a := 0) (b := 0) (by omega) (by omega)).2.2.2.2.1
    rw [n1] at hcsb
    clear HBs HDe HJn HCs HD HR HY hb1 hk ho hlp hpt h1 h2 h3 h4
    generalize hcN : cN x y = N at *
    go_wp2_with fail
    refine (HC.out _).mono ?_
    rintro e w2 ⟨rfl, hb⟩
    have hbl2 := Lib.hid (below_call (hbl0.out _) hb)
    have hxm2 := Lib.hid ((hxm0.out _).call hb)
    have HAt0 := Lib.hid (at_any A n c (0 : Int) w2 w.heap.size HN.out (HY1.out _ hbl2.out) (by omega) (by omega))
    have HAt1 := Lib.hid (at_any A n c (1 : Int) w2 w.heap.size HN.out (HY1.out _ hbl2.out) (by omega) (by omega))
    have hN0 : ((N : Int) = 0) = False := by simp; omega
    clear hb hbl0 hxm0
    go_wp2_with fail
    refine HAt0.out.mono ?_
    rintro e w3 ⟨ra, hra, rfl, rfl⟩
    obtain ⟨a, ha⟩ : ∃ a : Nat, ((ra : Int)).tmod (N : Int) = (a : Int) := ⟨ra % N, by rw [IntWalk.rem_in _ _ (by omega)]; simp⟩
    have haN : a < N := by
      rw [IntWalk.rem_in _ _ (by omega)] at ha
      have := Int.emod_lt_of_pos (ra : Int) (show (0 : Int) < N by omega)
      omega
    go_wp2_with fail
    refine HAt1.out.mono ?_
    rintro e w3 ⟨rb, hrb, rfl, rfl⟩
    obtain ⟨b, hb⟩ : ∃ b : Nat, ((rb : Int)).tmod (N : Int) = (b : Int) := ⟨rb % N, by rw [IntWalk.rem_in _ _ (by omega)]; simp⟩
    have hbN : b < N := by
      rw [IntWalk.rem_in _ _ (by omega)] at hb
      have := Int.emod_lt_of_pos (rb : Int) (show (0 : Int) < N by omega)
      omega
    obtain ⟨f1, f2, f3, f4, f5, f6⟩ := HL.out a b (by omega) (by omega)
    have A1 := Lib.hid (fun A c X h => HFd.out x y o A 2 c [(a : Int), (b : Int)] X rfl (by omega) h)
    have A8 := Lib.hid (fun X => HFd.out x y o none 0 0 [] X rfl (by omega) (none_in X _))
    have A5 := Lib.hid (HCp.out x y (fdZ x y o [(a : Int), (b : Int)]))
    have A5' := Lib.hid (HCp.out x y (fdZ x y o []))
    have A6 := Lib.hid (HDs.out x y o a b)
    have A6' := Lib.hid (HDs.out x y (fdZ x y o [(a : Int), (b : Int)]) a b)
    rw [f3] at A5; rw [f6] at A5'; rw [f4] at A6'
    have F1 := Lib.hid f1
    have F2 := Lib.hid f2
    clear HL HFd HCp HDs HAt0 HAt1 f1 f2 f3 f4 f5 f6 hra hrb n1
    generalize fdZ x y o [(a : Int), (b : Int)] = z' at *
    generalize fdZ x y o [] = z0 at *
    generalize dsZ x y o a b = dd at *
    obtain ⟨m0, m1, m2⟩ := hxm2.out.1
    go_wp2_with fail
    refine (A1.out _ _ _ (two_in w2 a b)).mono ?_
    rintro e w4 ⟨rfl, hb4⟩
    have hld4 : Hid (∀ T, LD w w1.heap.size w4.heap.size x y o z' (w4.alloc (.cells #[.int .i64 x, .int .i64 y, .int .i64 z'] T))) := fun T =>
      ⟨below_call (below_call (below_call hbl2.out (below_box _ _)) hb4) (below_box _ _), ((hxm2.out.call (below_box _ _)).call hb4).call (below_box _ _), mbox_new x y z' w4 T⟩
    clear hb4 hbl2 hxm2 m0 m1 m2 A1
    have hcs : decide (csZ x y o ≤ (N : Int)) = true := decide_eq_true (by omega)
    clear hcsb
    have HLL : Hid ((deL x y o).length ≤ 16 ∧ (jnL x y o).length ≤ 16) := Lib.hid ⟨de_len x y o, jn_len x y o⟩
    generalize csZ x y o = cs at *
    generalize deL x y o = l at *
    generalize jnL x y o = jl at *
    generalize bsZ x y o = bs at *
    rcases Nat.lt_or_ge 1 N with hN1 | hN1
    · obtain ⟨g1, g2⟩ := F1.out hN1
      subst g1
      have hd1 : decide ((1 : Int) < (N : Int)) = true := by simp; omega
      have hd2 : decide ((l.length : Int) < 2) = false := by simp; omega
      clear F1 hN1 g2
      have hldA := Lib.hid (hld4.out 27)
      obtain ⟨m0, m1, m2⟩ := hldA.out.2.1.1
      clear hld4
      go_wp2_with fail
      refine (A2.out _).mono ?_
      rintro e w6 ⟨rfl, hb⟩
      have hldB := Lib.hid (hldA.out.call hb)
      clear hb hldA m0 m1 m2
      obtain ⟨m0, m1, m2⟩ := hldB.out.2.1.1
      go_wp2_with fail
      refine (A3.out _).mono ?_
      rintro e w7 ⟨vl, rfl, ho, hb⟩
      have hld8 := Lib.hid (hldB.out.call hb)
      obtain ⟨Al0, cl0, rfl⟩ := own_form ho
      clear hb ho hldB m0 m1 m2
      obtain ⟨m0, m1, m2⟩ := hld8.out.2.1.1
      go_wp2_with fail
      clear m0 m1 m2
      refine (A3.out _).mono ?_
      rintro e w9 ⟨vl, rfl, ho, hb⟩
      have hld9 := Lib.hid (hld8.out.call hb)
      have ho9 := Lib.hid ho
      have hldw := Lib.hid hld8.out.1.size
      obtain ⟨Al, cl, rfl⟩ := own_form ho
      have hllen : l.length ≤ 16 := HLL.out.1
      clear hb ho hld8 A2 A3 hd1
      go_wp2_with fail
      go_loopw [9] (fun u9 wr => ∃ k : Nat, k ≤ l.length ∧ u9 = .int .i64 k ∧ LD w w1.heap.size w4.heap.size x y o z' wr ∧ wr.ownsRow w.heap.size 3 1 (.slice Al l.length cl) l.length (icells l)) (fun u9 _ => l.length - (intOf u9).toNat)
      case atStart => exact ⟨0, Nat.zero_le _, rfl, hld9.out, own_base ho9.out hldw.out⟩
      case round =>
        clear hld9 ho9
        obtain ⟨k, hkl, rfl, hld0, ho0⟩ := hrel
        have hld := Lib.hid hld0
        have ho := Lib.hid ho0
        obtain ⟨m0, m1, m2⟩ := hld0.2.1.1
        clear hld0 ho0
        by_cases hkn : k < l.length
        · obtain ⟨u, hu, hmem⟩ : ∃ u, l[k]? = some u ∧ u ∈ l := ⟨l[k], List.getElem?_eq_getElem hkn, List.getElem_mem hkn⟩
          obtain ⟨gl, cg, hge, -, -⟩ := own_some ho.out (by omega)
          cases hge
          have hcell := own_cellI ho.out hu
          have HU := Lib.hid hu
          have hnot : Hid (decide (u ∈ jl) = false) := Lib.hid (decide_eq_false (F2.out u hmem))
          have hk0 : (0 : Int) ≤ (k : Int) := Int.natCast_nonneg _
          have hk1 : (k : Int) < (l.length : Int) := by omega
          have hjl : jl.length ≤ 1048576 := by have := HLL.out.2; omega
          clear hu hmem
          go_wp2_with fail
          try simp only [List.cons_append, List.nil_append, List.append_eq]
          refine wp_region_held_drew (S := (fun w' => w'.cell? ⟨w1.heap.size, 0, none⟩ = some (.int .i64 x) ∧ w'.cell? ⟨w1.heap.size, 1, none⟩ = some (.int .i64 y) ∧ w'.cell? ⟨w1.heap.size, 2, none⟩ = some (.int .i64 o) ∧ w'.cell? ⟨gl, k, none⟩ = some (.int .i64 u))) (by kernel_rfl) ?_ (fun hHeld0 => ?_)
          · (try dsimp only); go_keep
          refine wpAnyH_take (i := 0) (oi := { dst := some 51, op := Go.Op.load 27 (Go.Operand.tmp 3), type := 27, pos := "laws.go:267", after := #[], guard := none }) (v := ?_) rfl (by kernel_rfl) (by kernel_rfl) (by kernel_rfl) (fun _ _ _ h => h) (Or.inl ⟨by rfl, ?_⟩) (by assumption) ?_
          rotate_left
          · (intro w hSw; (try dsimp only at hSw); go_simp; try with_reducible rfl)
          try simp only [Act.put, List.setIfInBounds_toArray, List.set_cons_zero, List.set_cons_succ]
          refine wpAnyH_take (i := 2) (oi := { dst := some 53, op := Go.Op.move (Go.Operand.tmp 8), type := 32, pos := "laws.go:267", after := #[], guard := none }) (v := ?_) rfl (by kernel_rfl) (by kernel_rfl) (by kernel_rfl) (fun _ _ _ h => h) (Or.inl ⟨by rfl, ?_⟩) (by assumption) ?_
          rotate_left
          · (intro w hSw; (try dsimp only at hSw); go_simp; try with_reducible rfl)
          try simp only [Act.put, List.setIfInBounds_toArray, List.set_cons_zero, List.set_cons_succ]
          refine wpAnyH_take (i := 3) (oi := { dst := some 54, op := Go.Op.move (Go.Operand.tmp 9), type := 3, pos := "laws.go:267", after := #[], guard := none }) (v := ?_) rfl (by kernel_rfl) (by kernel_rfl) (by kernel_rfl) (fun _ _ _ h => h) (Or.inl ⟨by rfl, ?_⟩) (by assumption) ?_
          rotate_left
          · (intro w hSw; (try dsimp only at hSw); go_simp; try with_reducible rfl)
          try simp only [Act.put, List.setIfInBounds_toArray, List.set_cons_zero, List.set_cons_succ]
          refine wpAnyH_take (i := 4) (oi := { dst := some 55, op := Go.Op.indexAddr 32 (Go.Operand.tmp 53) (Go.Operand.tmp 54), type := 0, pos := "laws.go:267", after := #[{ on := 2, ground := Go.Ground.data }, { on := 3, ground := Go.Ground.data }], guard := none }) (v := ?_) rfl (by kernel_rfl) (by kernel_rfl) (by kernel_rfl) (fun _ _ _ h => h) (Or.inl ⟨by rfl, ?_⟩) (by assumption) ?_
          rotate_left
          · (intro w hSw; (try dsimp only at hSw); go_simp; try with_reducible rfl)
          try simp only [Act.put, List.setIfInBounds_toArray, List.set_cons_zero, List.set_cons_succ]
          refine wpAnyH_take (i := 5) (oi := { dst := some 56, op := Go.Op.load 3 (Go.Operand.tmp 55), type := 3, pos := "laws.go:267", after := #[{ on := 4, ground := Go.Ground.data }], guard := none }) (v := ?_) rfl (by kernel_rfl) (by kernel_rfl) (by kernel_rfl) (fun _ _ _ h => h) (Or.inl ⟨by rfl, ?_⟩) (by assumption) ?_
          rotate_left
          · (intro w hSw; (try dsimp only at hSw); go_simp; try with_reducible rfl)
          try simp only [Act.put, List.setIfInBounds_toArray, List.set_cons_zero, List.set_cons_succ]
          refine wpAnyH_ready (rs := [1]) (by kernel_rfl) (by simp) ?_
          refine AllReadyH.cons (o := { dst := some 52, op := Go.Op.call { callee := Go.Callee.value (Go.Operand.func 17), args := #[Go.Operand.tmp 51], argTypes := #[27] }, type := 32, pos := "laws.go:267", after := #[{ on := 0, ground := Go.Ground.data }], guard := none }) rfl (fun K1 hK1 => ?_) AllReadyH.nil
          go_simp
          (refine (A4.out _).mono ?_; rintro e v1 ⟨vj, rfl, hoj, hb1⟩; have hw2 := Lib.hid (hld.out.dr.call hb1); have ho2 := Lib.hid (own_after hb1 (own_after (⟨rfl, rfl, rfl, Nat.le_refl _, fun _ _ => rfl⟩ : Below _ _ (World.drew _)) ho.out)); obtain ⟨p0, p1, p2⟩ := hw2.out.2.1.1; have hcl := own_cellI ho2.out HU.out; obtain ⟨Aj, cj, rfl⟩ := own_form hoj; have HJ := Lib.hid (ints_own hoj).1)
          go_wp2_with fail
          refine hK1.out _ _ ?_ (fun hHeld1 => ?_)
          · (try dsimp only); go_keep
          clear hK1 K1 hHeld0
          try simp only [Act.put, List.setIfInBounds_toArray, List.set_cons_zero, List.set_cons_succ]
          refine wpAnyH_ready (rs := [6]) (by kernel_rfl) (by simp) ?_
          refine AllReadyH.cons (o := { dst := some 57, op := Go.Op.call { callee := Go.Callee.value (Go.Operand.func 16), args := #[Go.Operand.tmp 52, Go.Operand.tmp 56], argTypes := #[32, 3] }, type := 4, pos := "laws.go:267", after := #[{ on := 1, ground := Go.Ground.data }, { on := 5, ground := Go.Ground.data }, { on := 1, ground := Go.Ground.chain }], guard := none }) rfl (fun K6 hK6 => ?_) AllReadyH.nil
          go_simp
          (refine (has_any2 Aj _ cj jl u _ rfl hjl HJ.out).mono ?_; rw [hnot.out]; rintro e v2 ⟨rfl, rfl⟩)
          go_wp2_with fail
          refine hK6.out _ _ ?_ (fun hHeld2 => ?_)
          · (try dsimp only); go_keep
          clear hK6 K6 hHeld1
          try simp only [Act.put, List.setIfInBounds_toArray, List.set_cons_zero, List.set_cons_succ]
          refine wpAnyH_done (by kernel_rfl) ?_ _
          go_wp2_with fail
          go_roundw
          case rel => exact ⟨k + 1, by omega, by go_num, hw2.out, ho2.out⟩
          case measure => simp [intOf]; omega
        · obtain rfl : k = l.length := by omega
          obtain ⟨r0, r1, r2⟩ := hld.out.2.2.1
          have edd : (dd == dd) = true := by simp
          clear ho F2 A4 HLL
          go_wp2_with fail
          try simp only [List.cons_append, List.nil_append, List.append_eq]
          refine wp_region_held_drew (S := (fun w' => (w'.cell? ⟨w1.heap.size, 0, none⟩ = some (.int .i64 x) ∧ w'.cell? ⟨w1.heap.size, 1, none⟩ = some (.int .i64 y) ∧ w'.cell? ⟨w1.heap.size, 2, none⟩ = some (.int .i64 o)) ∧ w'.cell? ⟨w4.heap.size, 0, none⟩ = some (.int .i64 x) ∧ w'.cell? ⟨w4.heap.size, 1, none⟩ = some (.int .i64 y) ∧ w'.cell? ⟨w4.heap.size, 2, none⟩ = some (.int .i64 z'))) (by kernel_rfl) ?_ (fun hHeld0 => ?_)
          · (try dsimp only); go_keep
          refine wpAnyH_take (i := 0) (oi := { dst := some 58, op := Go.Op.load 27 (Go.Operand.tmp 7), type := 27, pos := "laws.go:271", after := #[], guard := none }) (v := ?_) rfl (by kernel_rfl) (by kernel_rfl) (by kernel_rfl) (fun _ _ _ h => h) (Or.inl ⟨by rfl, ?_⟩) (by assumption) ?_
          rotate_left
          · (intro w hSw; (try dsimp only at hSw); go_simp; try with_reducible rfl)
          try simp only [Act.put, List.setIfInBounds_toArray, List.set_cons_zero, List.set_cons_succ]
          refine wpAnyH_take (i := 2) (oi := { dst := some 60, op := Go.Op.load 27 (Go.Operand.tmp 3), type := 27, pos := "laws.go:271", after := #[], guard := none }) (v := ?_) rfl (by kernel_rfl) (by kernel_rfl) (by kernel_rfl) (fun _ _ _ h => h) (Or.inl ⟨by rfl, ?_⟩) (by assumption) ?_
          rotate_left
          · (intro w hSw; (try dsimp only at hSw); go_simp; try with_reducible rfl)
          try simp only [Act.put, List.setIfInBounds_toArray, List.set_cons_zero, List.set_cons_succ]
          refine wpAnyH_take (i := 3) (oi := { dst := some 61, op := Go.Op.move (Go.Operand.tmp 5), type := 3, pos := "laws.go:271", after := #[], guard := none }) (v := ?_) rfl (by kernel_rfl) (by kernel_rfl) (by kernel_rfl) (fun _ _ _ h => h) (Or.inl ⟨by rfl, ?_⟩) (by assumption) ?_
          rotate_left
          · (intro w hSw; (try dsimp only at hSw); go_simp; try with_reducible rfl)
          try simp only [Act.put, List.setIfInBounds_toArray, List.set_cons_zero, List.set_cons_succ]
          refine wpAnyH_take (i := 4) (oi := { dst := some 62, op := Go.Op.move (Go.Operand.tmp 6), type := 3, pos := "laws.go:271", after := #[], guard := none }) (v := ?_) rfl (by kernel_rfl) (by kernel_rfl) (by kernel_rfl) (fun _ _ _ h => h) (Or.inl ⟨by rfl, ?_⟩) (by assumption) ?_
          rotate_left
          · (intro w hSw; (try dsimp only at hSw); go_simp; try with_reducible rfl)
          try simp only [Act.put, List.setIfInBounds_toArray, List.set_cons_zero, List.set_cons_succ]
          refine wpAnyH_ready (rs := [1]) (by kernel_rfl) (by simp) ?_
          refine AllReadyH.cons (o := { dst := some 59, op := Go.Op.call { callee := Go.Callee.value (Go.Operand.func 18), args := #[Go.Operand.tmp 58], argTypes := #[27] }, type := 3, pos := "laws.go:271", after := #[{ on := 0, ground := Go.Ground.data }], guard := none }) rfl (fun K1 hK1 => ?_) AllReadyH.nil
          go_simp
          (refine (A5.out _).mono ?_; rintro e v1 ⟨rfl, hb1⟩; have hw1 := Lib.hid (hld.out.dr.call hb1); obtain ⟨p10, p11, p12⟩ := hw1.out.2.1.1; obtain ⟨q10, q11, q12⟩ := hw1.out.2.2.1)
          go_wp2_with fail
          refine hK1.out _ _ ?_ (fun hHeld1 => ?_)
          · (try dsimp only); go_keep
          clear hK1 K1 hHeld0
          try simp only [Act.put, List.setIfInBounds_toArray, List.set_cons_zero, List.set_cons_succ]
          refine wpAnyH_ready (rs := [5]) (by kernel_rfl) (by simp) ?_
          refine AllReadyH.cons (o := { dst := some 63, op := Go.Op.call { callee := Go.Callee.value (Go.Operand.func 19), args := #[Go.Operand.tmp 60, Go.Operand.tmp 61, Go.Operand.tmp 62], argTypes := #[27, 3, 3] }, type := 3, pos := "laws.go:271", after := #[{ on := 2, ground := Go.Ground.data }, { on := 3, ground := Go.Ground.data }, { on := 4, ground := Go.Ground.data }, { on := 1, ground := Go.Ground.chain }], guard := none }) rfl (fun K5 hK5 => ?_) AllReadyH.nil
          go_simp
          (refine (A6.out _).mono ?_; rintro e v2 ⟨rfl, hb2⟩; have hw2 := Lib.hid (hw1.out.call hb2); obtain ⟨p20, p21, p22⟩ := hw2.out.2.1.1; obtain ⟨q20, q21, q22⟩ := hw2.out.2.2.1)
          go_wp2_with fail
          refine hK5.out _ _ ?_ (fun hHeld2 => ?_)
          · (try dsimp only); go_keep
          clear hK5 K5 hHeld1
          try simp only [Act.put, List.setIfInBounds_toArray, List.set_cons_zero, List.set_cons_succ]
          refine wpAnyH_take (i := 6) (oi := { dst := some 64, op := Go.Op.binOp Go.BinOp.eql 3 (Go.Operand.tmp 59) (Go.Operand.tmp 63) 3, type := 4, pos := "laws.go:271", after := #[{ on := 1, ground := Go.Ground.data }, { on := 5, ground := Go.Ground.data }], guard := none }) (v := ?_) rfl (by kernel_rfl) (by kernel_rfl) (by kernel_rfl) (fun _ _ _ h => h) (Or.inl ⟨by rfl, ?_⟩) (by assumption) ?_
          rotate_left
          · (intro w hSw; (try dsimp only at hSw); go_simp; try with_reducible rfl)
          try simp only [Act.put, List.setIfInBounds_toArray, List.set_cons_zero, List.set_cons_succ]
          refine wpAnyH_take (i := 7) (oi := { dst := some 65, op := Go.Op.move (Go.Operand.tmp 64), type := 4, pos := "laws.go:271", after := #[{ on := 6, ground := Go.Ground.data }, { on := 5, ground := Go.Ground.chain }], guard := none }) (v := ?_) rfl (by kernel_rfl) (by kernel_rfl) (by kernel_rfl) (fun _ _ _ h => h) (Or.inl ⟨by rfl, ?_⟩) (by assumption) ?_
          rotate_left
          · (intro w hSw; (try dsimp only at hSw); go_simp; try with_reducible rfl)
          try simp only [Act.put, List.setIfInBounds_toArray, List.set_cons_zero, List.set_cons_succ]
          refine wpAnyH_take (i := 8) (oi := { dst := some 66, op := Go.Op.load 27 (Go.Operand.tmp 7), type := 27, pos := "laws.go:271", after := #[{ on := 7, ground := Go.Ground.guard }], guard := some (7, true) }) (v := ?_) rfl (by kernel_rfl) (by kernel_rfl) (by kernel_rfl) (fun _ _ _ h => h) (Or.inl ⟨by rfl, ?_⟩) (by assumption) ?_
          rotate_left
          · (intro w hSw; (try dsimp only at hSw); go_simp; try with_reducible rfl)
          try simp only [Act.put, List.setIfInBounds_toArray, List.set_cons_zero, List.set_cons_succ]
          refine wpAnyH_take (i := 9) (oi := { dst := some 67, op := Go.Op.move (Go.Operand.tmp 5), type := 3, pos := "laws.go:271", after := #[{ on := 7, ground := Go.Ground.guard }], guard := some (7, true) }) (v := ?_) rfl (by kernel_rfl) (by kernel_rfl) (by kernel_rfl) (fun _ _ _ h => h) (Or.inl ⟨by rfl, ?_⟩) (by assumption) ?_
          rotate_left
          · (intro w hSw; (try dsimp only at hSw); go_simp; try with_reducible rfl)
          try simp only [Act.put, List.setIfInBounds_toArray, List.set_cons_zero, List.set_cons_succ]
          refine wpAnyH_take (i := 10) (oi := { dst := some 68, op := Go.Op.move (Go.Operand.tmp 6), type := 3, pos := "laws.go:271", after := #[{ on := 7, ground := Go.Ground.guard }], guard := some (7, true) }) (v := ?_) rfl (by kernel_rfl) (by kernel_rfl) (by kernel_rfl) (fun _ _ _ h => h) (Or.inl ⟨by rfl, ?_⟩) (by assumption) ?_
          rotate_left
          · (intro w hSw; (try dsimp only at hSw); go_simp; try with_reducible rfl)
          try simp only [Act.put, List.setIfInBounds_toArray, List.set_cons_zero, List.set_cons_succ]
          refine wpAnyH_take (i := 12) (oi := { dst := some 70, op := Go.Op.load 27 (Go.Operand.tmp 3), type := 27, pos := "laws.go:271", after := #[{ on := 7, ground := Go.Ground.guard }], guard := some (7, true) }) (v := ?_) rfl (by kernel_rfl) (by kernel_rfl) (by kernel_rfl) (fun _ _ _ h => h) (Or.inl ⟨by rfl, ?_⟩) (by assumption) ?_
          rotate_left
          · (intro w hSw; (try dsimp only at hSw); go_simp; try with_reducible rfl)
          try simp only [Act.put, List.setIfInBounds_toArray, List.set_cons_zero, List.set_cons_succ]
          refine wpAnyH_take (i := 13) (oi := { dst := some 71, op := Go.Op.move (Go.Operand.tmp 5), type := 3, pos := "laws.go:271", after := #[{ on := 7, ground := Go.Ground.guard }], guard := some (7, true) }) (v := ?_) rfl (by kernel_rfl) (by kernel_rfl) (by kernel_rfl) (fun _ _ _ h => h) (Or.inl ⟨by rfl, ?_⟩) (by assumption) ?_
          rotate_left
          · (intro w hSw; (try dsimp only at hSw); go_simp; try with_reducible rfl)
          try simp only [Act.put, List.setIfInBounds_toArray, List.set_cons_zero, List.set_cons_succ]
          refine wpAnyH_take (i := 14) (oi := { dst := some 72, op := Go.Op.move (Go.Operand.tmp 6), type := 3, pos := "laws.go:271", after := #[{ on := 7, ground := Go.Ground.guard }], guard := some (7, true) }) (v := ?_) rfl (by kernel_rfl) (by kernel_rfl) (by kernel_rfl) (fun _ _ _ h => h) (Or.inl ⟨by rfl, ?_⟩) (by assumption) ?_
          rotate_left
          · (intro w hSw; (try dsimp only at hSw); go_simp; try with_reducible rfl)
          try simp only [Act.put, List.setIfInBounds_toArray, List.set_cons_zero, List.set_cons_succ]
          refine wpAnyH_ready (rs := [11]) (by kernel_rfl) (by simp) ?_
          refine AllReadyH.cons (o := { dst := some 69, op := Go.Op.call { callee := Go.Callee.value (Go.Operand.func 19), args := #[Go.Operand.tmp 66, Go.Operand.tmp 67, Go.Operand.tmp 68], argTypes := #[27, 3, 3] }, type := 3, pos := "laws.go:271", after := #[{ on := 8, ground := Go.Ground.data }, { on := 9, ground := Go.Ground.data }, { on := 10, ground := Go.Ground.data }, { on := 7, ground := Go.Ground.chain }, { on := 7, ground := Go.Ground.guard }], guard := some (7, true) }) rfl (fun K11 hK11 => ?_) AllReadyH.nil
          go_simp
          (refine (A6'.out _).mono ?_; rintro e v3 ⟨rfl, hb3⟩; have hw3 := Lib.hid (hw2.out.call hb3); obtain ⟨p30, p31, p32⟩ := hw3.out.2.1.1; obtain ⟨q30, q31, q32⟩ := hw3.out.2.2.1)
          go_wp2_with fail
          refine hK11.out _ _ ?_ (fun hHeld3 => ?_)
          · (try dsimp only); go_keep
          clear hK11 K11 hHeld2
          try simp only [Act.put, List.setIfInBounds_toArray, List.set_cons_zero, List.set_cons_succ]
          refine wpAnyH_ready (rs := [15]) (by kernel_rfl) (by simp) ?_
          refine AllReadyH.cons (o := { dst := some 73, op := Go.Op.call { callee := Go.Callee.value (Go.Operand.func 19), args := #[Go.Operand.tmp 70, Go.Operand.tmp 71, Go.Operand.tmp 72], argTypes := #[27, 3, 3] }, type := 3, pos := "laws.go:271", after := #[{ on := 12, ground := Go.Ground.data }, { on := 13, ground := Go.Ground.data }, { on := 14, ground := Go.Ground.data }, { on := 11, ground := Go.Ground.chain }, { on := 7, ground := Go.Ground.guard }], guard := some (7, true) }) rfl (fun K15 hK15 => ?_) AllReadyH.nil
          go_simp
          (refine (A6.out _).mono ?_; rintro e v4 ⟨rfl, hb4⟩; have hw4 := Lib.hid (hw3.out.call hb4); obtain ⟨p40, p41, p42⟩ := hw4.out.2.1.1; obtain ⟨q40, q41, q42⟩ := hw4.out.2.2.1)
          go_wp2_with fail
          refine hK15.out _ _ ?_ (fun hHeld4 => ?_)
          · (try dsimp only); go_keep
          clear hK15 K15 hHeld3
          try simp only [Act.put, List.setIfInBounds_toArray, List.set_cons_zero, List.set_cons_succ]
          refine wpAnyH_take (i := 16) (oi := { dst := some 74, op := Go.Op.binOp Go.BinOp.eql 3 (Go.Operand.tmp 69) (Go.Operand.tmp 73) 3, type := 4, pos := "laws.go:271", after := #[{ on := 11, ground := Go.Ground.data }, { on := 15, ground := Go.Ground.data }, { on := 7, ground := Go.Ground.guard }], guard := some (7, true) }) (v := ?_) rfl (by kernel_rfl) (by kernel_rfl) (by kernel_rfl) (fun _ _ _ h => h) (Or.inl ⟨by rfl, ?_⟩) (by assumption) ?_
          rotate_left
          · (intro w hSw; (try dsimp only at hSw); go_simp; try with_reducible rfl)
          try simp only [Act.put, List.setIfInBounds_toArray, List.set_cons_zero, List.set_cons_succ]
          refine wpAnyH_take (i := 17) (oi := { dst := some 75, op := Go.Op.pick (Go.Operand.tmp 65) (Go.Operand.tmp 74) (Go.Operand.const (Go.Value.bool false)), type := 4, pos := "laws.go:271", after := #[{ on := 7, ground := Go.Ground.data }, { on := 16, ground := Go.Ground.data }], guard := none }) (v := ?_) rfl (by kernel_rfl) (by kernel_rfl) (by kernel_rfl) (fun _ _ _ h => h) (Or.inl ⟨by rfl, ?_⟩) (by assumption) ?_
          rotate_left
          · (intro w hSw; (try dsimp only at hSw); go_simp; try with_reducible rfl)
          try simp only [Act.put, List.setIfInBounds_toArray, List.set_cons_zero, List.set_cons_succ]
          refine wpAnyH_take (i := 18) (oi := { dst := some 76, op := Go.Op.move (Go.Operand.tmp 75), type := 4, pos := "laws.go:271", after := #[{ on := 17, ground := Go.Ground.data }, { on := 15, ground := Go.Ground.chain }], guard := none }) (v := ?_) rfl (by kernel_rfl) (by kernel_rfl) (by kernel_rfl) (fun _ _ _ h => h) (Or.inl ⟨by rfl, ?_⟩) (by assumption) ?_
          rotate_left
          · (intro w hSw; (try dsimp only at hSw); go_simp; try with_reducible rfl)
          try simp only [Act.put, List.setIfInBounds_toArray, List.set_cons_zero, List.set_cons_succ]
          refine wpAnyH_take (i := 19) (oi := { dst := some 77, op := Go.Op.load 27 (Go.Operand.tmp 3), type := 27, pos := "laws.go:271", after := #[{ on := 18, ground := Go.Ground.guard }], guard := some (18, true) }) (v := ?_) rfl (by kernel_rfl) (by kernel_rfl) (by kernel_rfl) (fun _ _ _ h => h) (Or.inl ⟨by rfl, ?_⟩) (by assumption) ?_
          rotate_left
          · (intro w hSw; (try dsimp only at hSw); go_simp; try with_reducible rfl)
          try simp only [Act.put, List.setIfInBounds_toArray, List.set_cons_zero, List.set_cons_succ]
          refine wpAnyH_take (i := 21) (oi := { dst := some 79, op := Go.Op.move (Go.Operand.tmp 4), type := 3, pos := "laws.go:271", after := #[{ on := 18, ground := Go.Ground.guard }], guard := some (18, true) }) (v := ?_) rfl (by kernel_rfl) (by kernel_rfl) (by kernel_rfl) (fun _ _ _ h => h) (Or.inl ⟨by rfl, ?_⟩) (by assumption) ?_
          rotate_left
          · (intro w hSw; (try dsimp only at hSw); go_simp; try with_reducible rfl)
          try simp only [Act.put, List.setIfInBounds_toArray, List.set_cons_zero, List.set_cons_succ]
          refine wpAnyH_ready (rs := [20]) (by kernel_rfl) (by simp) ?_
          refine AllReadyH.cons (o := { dst := some 78, op := Go.Op.call { callee := Go.Callee.value (Go.Operand.func 20), args := #[Go.Operand.tmp 77], argTypes := #[27] }, type := 3, pos := "laws.go:271", after := #[{ on := 19, ground := Go.Ground.data }, { on := 18, ground := Go.Ground.chain }, { on := 18, ground := Go.Ground.guard }], guard := some (18, true) }) rfl (fun K20 hK20 => ?_) AllReadyH.nil
          go_simp
          (refine (A7.out _).mono ?_; rintro e v5 ⟨rfl, hb5⟩; have hw5 := Lib.hid (hw4.out.call hb5); obtain ⟨p50, p51, p52⟩ := hw5.out.2.1.1; obtain ⟨q50, q51, q52⟩ := hw5.out.2.2.1)
          go_wp2_with fail
          refine hK20.out _ _ ?_ (fun hHeld5 => ?_)
          · (try dsimp only); go_keep
          clear hK20 K20 hHeld4
          try simp only [Act.put, List.setIfInBounds_toArray, List.set_cons_zero, List.set_cons_succ]
          refine wpAnyH_take (i := 22) (oi := { dst := some 80, op := Go.Op.binOp Go.BinOp.leq 3 (Go.Operand.tmp 78) (Go.Operand.tmp 79) 3, type := 4, pos := "laws.go:271", after := #[{ on := 20, ground := Go.Ground.data }, { on := 21, ground := Go.Ground.data }, { on := 18, ground := Go.Ground.guard }], guard := some (18, true) }) (v := ?_) rfl (by kernel_rfl) (by kernel_rfl) (by kernel_rfl) (fun _ _ _ h => h) (Or.inl ⟨by rfl, ?_⟩) (by assumption) ?_
          rotate_left
          · (intro w hSw; (try dsimp only at hSw); go_simp; try with_reducible rfl)
          try simp only [Act.put, List.setIfInBounds_toArray, List.set_cons_zero, List.set_cons_succ]
          refine wpAnyH_take (i := 23) (oi := { dst := some 81, op := Go.Op.pick (Go.Operand.tmp 76) (Go.Operand.tmp 80) (Go.Operand.const (Go.Value.bool false)), type := 4, pos := "laws.go:271", after := #[{ on := 18, ground := Go.Ground.data }, { on := 22, ground := Go.Ground.data }], guard := none }) (v := ?_) rfl (by kernel_rfl) (by kernel_rfl) (by kernel_rfl) (fun _ _ _ h => h) (Or.inl ⟨by rfl, ?_⟩) (by assumption) ?_
          rotate_left
          · (intro w hSw; (try dsimp only at hSw); go_simp; try with_reducible rfl)
          try simp only [Act.put, List.setIfInBounds_toArray, List.set_cons_zero, List.set_cons_succ]
          refine wpAnyH_take (i := 24) (oi := { dst := some 82, op := Go.Op.move (Go.Operand.tmp 81), type := 4, pos := "laws.go:271", after := #[{ on := 23, ground := Go.Ground.data }, { on := 20, ground := Go.Ground.chain }], guard := none }) (v := ?_) rfl (by kernel_rfl) (by kernel_rfl) (by kernel_rfl) (fun _ _ _ h => h) (Or.inl ⟨by rfl, ?_⟩) (by assumption) ?_
          rotate_left
          · (intro w hSw; (try dsimp only at hSw); go_simp; try with_reducible rfl)
          try simp only [Act.put, List.setIfInBounds_toArray, List.set_cons_zero, List.set_cons_succ]
          refine wpAnyH_take (i := 25) (oi := { dst := some 83, op := Go.Op.load 27 (Go.Operand.tmp 3), type := 27, pos := "laws.go:271", after := #[{ on := 24, ground := Go.Ground.guard }], guard := some (24, true) }) (v := ?_) rfl (by kernel_rfl) (by kernel_rfl) (by kernel_rfl) (fun _ _ _ h => h) (Or.inl ⟨by rfl, ?_⟩) (by assumption) ?_
          rotate_left
          · (intro w hSw; (try dsimp only at hSw); go_simp; try with_reducible rfl)
          try simp only [Act.put, List.setIfInBounds_toArray, List.set_cons_zero, List.set_cons_succ]
          refine wpAnyH_ready (rs := [26]) (by kernel_rfl) (by simp) ?_
          refine AllReadyH.cons (o := { dst := some 84, op := Go.Op.call { callee := Go.Callee.value (Go.Operand.func 13), args := #[Go.Operand.tmp 83, Go.Operand.const (Go.Value.slice none 0 0)], argTypes := #[27, 32] }, type := 27, pos := "laws.go:271", after := #[{ on := 25, ground := Go.Ground.data }, { on := 24, ground := Go.Ground.chain }, { on := 24, ground := Go.Ground.guard }], guard := some (24, true) }) rfl (fun K26 hK26 => ?_) AllReadyH.nil
          go_simp
          (refine (A8.out _).mono ?_; rintro e v6 ⟨rfl, hb6⟩; have hw6 := Lib.hid (hw5.out.call hb6); obtain ⟨p60, p61, p62⟩ := hw6.out.2.1.1; obtain ⟨q60, q61, q62⟩ := hw6.out.2.2.1)
          go_wp2_with fail
          refine hK26.out _ _ ?_ (fun hHeld6 => ?_)
          · (try dsimp only); go_keep
          clear hK26 K26 hHeld5
          try simp only [Act.put, List.setIfInBounds_toArray, List.set_cons_zero, List.set_cons_succ]
          refine wpAnyH_ready (rs := [27]) (by kernel_rfl) (by simp) ?_
          refine AllReadyH.cons (o := { dst := some 85, op := Go.Op.call { callee := Go.Callee.value (Go.Operand.func 18), args := #[Go.Operand.tmp 84], argTypes := #[27] }, type := 3, pos := "laws.go:271", after := #[{ on := 26, ground := Go.Ground.data }, { on := 26, ground := Go.Ground.chain }, { on := 24, ground := Go.Ground.guard }], guard := some (24, true) }) rfl (fun K27 hK27 => ?_) AllReadyH.nil
          go_simp
          (refine (A5'.out _).mono ?_; rintro e v7 ⟨rfl, hb7⟩; have hw7 := Lib.hid (hw6.out.call hb7); obtain ⟨p70, p71, p72⟩ := hw7.out.2.1.1; obtain ⟨q70, q71, q72⟩ := hw7.out.2.2.1)
          go_wp2_with fail
          refine hK27.out _ _ ?_ (fun hHeld7 => ?_)
          · (try dsimp only); go_keep
          clear hK27 K27 hHeld6
          try simp only [Act.put, List.setIfInBounds_toArray, List.set_cons_zero, List.set_cons_succ]
          refine wpAnyH_take (i := 28) (oi := { dst := some 86, op := Go.Op.binOp Go.BinOp.eql 3 (Go.Operand.tmp 85) (Go.Operand.const (Go.Value.int Go.IntKind.i64 0)) 3, type := 4, pos := "laws.go:271", after := #[{ on := 27, ground := Go.Ground.data }, { on := 24, ground := Go.Ground.guard }], guard := some (24, true) }) (v := ?_) rfl (by kernel_rfl) (by kernel_rfl) (by kernel_rfl) (fun _ _ _ h => h) (Or.inl ⟨by rfl, ?_⟩) (by assumption) ?_
          rotate_left
          · (intro w hSw; (try dsimp only at hSw); go_simp; try with_reducible rfl)
          try simp only [Act.put, List.setIfInBounds_toArray, List.set_cons_zero, List.set_cons_succ]
          refine wpAnyH_take (i := 29) (oi := { dst := some 87, op := Go.Op.pick (Go.Operand.tmp 82) (Go.Operand.tmp 86) (Go.Operand.const (Go.Value.bool false)), type := 4, pos := "laws.go:271", after := #[{ on := 24, ground := Go.Ground.data }, { on := 28, ground := Go.Ground.data }], guard := none }) (v := ?_) rfl (by kernel_rfl) (by kernel_rfl) (by kernel_rfl) (fun _ _ _ h => h) (Or.inl ⟨by rfl, ?_⟩) (by assumption) ?_
          rotate_left
          · (intro w hSw; (try dsimp only at hSw); go_simp; try with_reducible rfl)
          try simp only [Act.put, List.setIfInBounds_toArray, List.set_cons_zero, List.set_cons_succ]
          refine wpAnyH_take (i := 30) (oi := { dst := some 2, op := Go.Op.assign (Go.Operand.tmp 87), type := 4, pos := "laws.go:271", after := #[{ on := 29, ground := Go.Ground.data }, { on := 27, ground := Go.Ground.chain }, { on := 0, ground := Go.Ground.phase }, { on := 1, ground := Go.Ground.phase }, { on := 2, ground := Go.Ground.phase }, { on := 3, ground := Go.Ground.phase }, { on := 4, ground := Go.Ground.phase }, { on := 5, ground := Go.Ground.phase }, { on := 6, ground := Go.Ground.phase }, { on := 7, ground := Go.Ground.phase }, { on := 8, ground := Go.Ground.phase }, { on := 9, ground := Go.Ground.phase }, { on := 10, ground := Go.Ground.phase }, { on := 11, ground := Go.Ground.phase }, { on := 12, ground := Go.Ground.phase }, { on := 13, ground := Go.Ground.phase }, { on := 14, ground := Go.Ground.phase }, { on := 15, ground := Go.Ground.phase }, { on := 16, ground := Go.Ground.phase }, { on := 17, ground := Go.Ground.phase }, { on := 18, ground := Go.Ground.phase }, { on := 19, ground := Go.Ground.phase }, { on := 20, ground := Go.Ground.phase }, { on := 21, ground := Go.Ground.phase }, { on := 22, ground := Go.Ground.phase }, { on := 23, ground := Go.Ground.phase }, { on := 24, ground := Go.Ground.phase }, { on := 25, ground := Go.Ground.phase }, { on := 26, ground := Go.Ground.phase }, { on := 27, ground := Go.Ground.phase }, { on := 28, ground := Go.Ground.phase }, { on := 29, ground := Go.Ground.phase }], guard := none }) (v := ?_) rfl (by kernel_rfl) (by kernel_rfl) (by kernel_rfl) (fun _ _ _ h => h) (Or.inl ⟨by rfl, ?_⟩) (by assumption) ?_
          rotate_left
          · (intro w hSw; (try dsimp only at hSw); go_simp; try with_reducible rfl)
          try simp only [Act.put, List.setIfInBounds_toArray, List.set_cons_zero, List.set_cons_succ]
          refine wpAnyH_done (by kernel_rfl) ?_ _
          go_wp2_with fail
          go_ret
          exact HK.out _ hw7.out.1
    · have hd1 : decide ((1 : Int) < (N : Int)) = false := by simp; omega
      have hld8 := Lib.hid (hld4.out 27)
      obtain ⟨m0, m1, m2⟩ := hld8.out.2.1.1
      clear F1 hN1 hld4
      go_wp2_with fail
      generalize w4.alloc (.cells #[.int .i64 x, .int .i64 y, .int .i64 z'] 27) = w7 at *
      clear m0 m1 m2
      refine (A3.out _).mono ?_
      rintro e w9 ⟨vl, rfl, ho, hb⟩
      have hld9 := Lib.hid (hld8.out.call hb)
      have ho9 := Lib.hid ho
      have hldw := Lib.hid hld8.out.1.size
      obtain ⟨Al, cl, rfl⟩ := own_form ho
      have hllen : l.length ≤ 16 := HLL.out.1
      clear hb ho hld8 A2 A3 hd1
      go_wp2_with fail
      go_loopw [9] (fun u9 wr => ∃ k : Nat, k ≤ l.length ∧ u9 = .int .i64 k ∧ LD w w1.heap.size w4.heap.size x y o z' wr ∧ wr.ownsRow w.heap.size 3 1 (.slice Al l.length cl) l.length (icells l)) (fun u9 _ => l.length - (intOf u9).toNat)
      case atStart => exact ⟨0, Nat.zero_le _, rfl, hld9.out, own_base ho9.out hldw.out⟩
      case round =>
        clear hld9 ho9
        obtain ⟨k, hkl, rfl, hld0, ho0⟩ := hrel
        have hld := Lib.hid hld0
        have ho := Lib.hid ho0
        obtain ⟨m0, m1, m2⟩ := hld0.2.1.1
        clear hld0 ho0
        by_cases hkn : k < l.length
        · obtain ⟨u, hu, hmem⟩ : ∃ u, l[k]? = some u ∧ u ∈ l := ⟨l[k], List.getElem?_eq_getElem hkn, List.getElem_mem hkn⟩
          obtain ⟨gl, cg, hge, -, -⟩ := own_some ho.out (by omega)
          cases hge
          have hcell := own_cellI ho.out hu
          have HU := Lib.hid hu
          have hnot : Hid (decide (u ∈ jl) = false) := Lib.hid (decide_eq_false (F2.out u hmem))
          have hk0 : (0 : Int) ≤ (k : Int) := Int.natCast_nonneg _
          have hk1 : (k : Int) < (l.length : Int) := by omega
          have hjl : jl.length ≤ 1048576 := by have := HLL.out.2; omega
          clear hu hmem
          go_wp2_with fail
          try simp only [List.cons_append, List.nil_append, List.append_eq]
          refine wp_region_held_drew (S := (fun w' => w'.cell? ⟨w1.heap.size, 0, none⟩ = some (.int .i64 x) ∧ w'.cell? ⟨w1.heap.size, 1, none⟩ = some (.int .i64 y) ∧ w'.cell? ⟨w1.heap.size, 2, none⟩ = some (.int .i64 o) ∧ w'.cell? ⟨gl, k, none⟩ = some (.int .i64 u))) (by kernel_rfl) ?_ (fun hHeld0 => ?_)
          · (try dsimp only); go_keep
          refine wpAnyH_take (i := 0) (oi := { dst := some 51, op := Go.Op.load 27 (Go.Operand.tmp 3), type := 27, pos := "laws.go:267", after := #[], guard := none }) (v := ?_) rfl (by kernel_rfl) (by kernel_rfl) (by kernel_rfl) (fun _ _ _ h => h) (Or.inl ⟨by rfl, ?_⟩) (by assumption) ?_
          rotate_left
          · (intro w hSw; (try dsimp only at hSw); go_simp; try with_reducible rfl)
          try simp only [Act.put, List.setIfInBounds_toArray, List.set_cons_zero, List.set_cons_succ]
          refine wpAnyH_take (i := 2) (oi := { dst := some 53, op := Go.Op.move (Go.Operand.tmp 8), type := 32, pos := "laws.go:267", after := #[], guard := none }) (v := ?_) rfl (by kernel_rfl) (by kernel_rfl) (by kernel_rfl) (fun _ _ _ h => h) (Or.inl ⟨by rfl, ?_⟩) (by assumption) ?_
          rotate_left
          · (intro w hSw; (try dsimp only at hSw); go_simp; try with_reducible rfl)
          try simp only [Act.put, List.setIfInBounds_toArray, List.set_cons_zero, List.set_cons_succ]
          refine wpAnyH_take (i := 3) (oi := { dst := some 54, op := Go.Op.move (Go.Operand.tmp 9), type := 3, pos := "laws.go:267", after := #[], guard := none }) (v := ?_) rfl (by kernel_rfl) (by kernel_rfl) (by kernel_rfl) (fun _ _ _ h => h) (Or.inl ⟨by rfl, ?_⟩) (by assumption) ?_
          rotate_left
          · (intro w hSw; (try dsimp only at hSw); go_simp; try with_reducible rfl)
          try simp only [Act.put, List.setIfInBounds_toArray, List.set_cons_zero, List.set_cons_succ]
          refine wpAnyH_take (i := 4) (oi := { dst := some 55, op := Go.Op.indexAddr 32 (Go.Operand.tmp 53) (Go.Operand.tmp 54), type := 0, pos := "laws.go:267", after := #[{ on := 2, ground := Go.Ground.data }, { on := 3, ground := Go.Ground.data }], guard := none }) (v := ?_) rfl (by kernel_rfl) (by kernel_rfl) (by kernel_rfl) (fun _ _ _ h => h) (Or.inl ⟨by rfl, ?_⟩) (by assumption) ?_
          rotate_left
          · (intro w hSw; (try dsimp only at hSw); go_simp; try with_reducible rfl)
          try simp only [Act.put, List.setIfInBounds_toArray, List.set_cons_zero, List.set_cons_succ]
          refine wpAnyH_take (i := 5) (oi := { dst := some 56, op := Go.Op.load 3 (Go.Operand.tmp 55), type := 3, pos := "laws.go:267", after := #[{ on := 4, ground := Go.Ground.data }], guard := none }) (v := ?_) rfl (by kernel_rfl) (by kernel_rfl) (by kernel_rfl) (fun _ _ _ h => h) (Or.inl ⟨by rfl, ?_⟩) (by assumption) ?_
          rotate_left
          · (intro w hSw; (try dsimp only at hSw); go_simp; try with_reducible rfl)
          try simp only [Act.put, List.setIfInBounds_toArray, List.set_cons_zero, List.set_cons_succ]
          refine wpAnyH_ready (rs := [1]) (by kernel_rfl) (by simp) ?_
          refine AllReadyH.cons (o := { dst := some 52, op := Go.Op.call { callee := Go.Callee.value (Go.Operand.func 17), args := #[Go.Operand.tmp 51], argTypes := #[27] }, type := 32, pos := "laws.go:267", after := #[{ on := 0, ground := Go.Ground.data }], guard := none }) rfl (fun K1 hK1 => ?_) AllReadyH.nil
          go_simp
          (refine (A4.out _).mono ?_; rintro e v1 ⟨vj, rfl, hoj, hb1⟩; have hw2 := Lib.hid (hld.out.dr.call hb1); have ho2 := Lib.hid (own_after hb1 (own_after (⟨rfl, rfl, rfl, Nat.le_refl _, fun _ _ => rfl⟩ : Below _ _ (World.drew _)) ho.out)); obtain ⟨p0, p1, p2⟩ := hw2.out.2.1.1; have hcl := own_cellI ho2.out HU.out; obtain ⟨Aj, cj, rfl⟩ := own_form hoj; have HJ := Lib.hid (ints_own hoj).1)
          go_wp2_with fail
          refine hK1.out _ _ ?_ (fun hHeld1 => ?_)
          · (try dsimp only); go_keep
          clear hK1 K1 hHeld0
          try simp only [Act.put, List.setIfInBounds_toArray, List.set_cons_zero, List.set_cons_succ]
          refine wpAnyH_ready (rs := [6]) (by kernel_rfl) (by simp) ?_
          refine AllReadyH.cons (o := { dst := some 57, op := Go.Op.call { callee := Go.Callee.value (Go.Operand.func 16), args := #[Go.Operand.tmp 52, Go.Operand.tmp 56], argTypes := #[32, 3] }, type := 4, pos := "laws.go:267", after := #[{ on := 1, ground := Go.Ground.data }, { on := 5, ground := Go.Ground.data }, { on := 1, ground := Go.Ground.chain }], guard := none }) rfl (fun K6 hK6 => ?_) AllReadyH.nil
          go_simp
          (refine (has_any2 Aj _ cj jl u _ rfl hjl HJ.out).mono ?_; rw [hnot.out]; rintro e v2 ⟨rfl, rfl⟩)
          go_wp2_with fail
          refine hK6.out _ _ ?_ (fun hHeld2 => ?_)
          · (try dsimp only); go_keep
          clear hK6 K6 hHeld1
          try simp only [Act.put, List.setIfInBounds_toArray, List.set_cons_zero, List.set_cons_succ]
          refine wpAnyH_done (by kernel_rfl) ?_ _
          go_wp2_with fail
          go_roundw
          case rel => exact ⟨k + 1, by omega, by go_num, hw2.out, ho2.out⟩
          case measure => simp [intOf]; omega
        · obtain rfl : k = l.length := by omega
          obtain ⟨r0, r1, r2⟩ := hld.out.2.2.1
          have edd : (dd == dd) = true := by simp
          clear ho F2 A4 HLL
          go_wp2_with fail
          try simp only [List.cons_append, List.nil_append, List.append_eq]
          refine wp_region_held_drew (S := (fun w' => (w'.cell? ⟨w1.heap.size, 0, none⟩ = some (.int .i64 x) ∧ w'.cell? ⟨w1.heap.size, 1, none⟩ = some (.int .i64 y) ∧ w'.cell? ⟨w1.heap.size, 2, none⟩ = some (.int .i64 o)) ∧ w'.cell? ⟨w4.heap.size, 0, none⟩ = some (.int .i64 x) ∧ w'.cell? ⟨w4.heap.size, 1, none⟩ = some (.int .i64 y) ∧ w'.cell? ⟨w4.heap.size, 2, none⟩ = some (.int .i64 z'))) (by kernel_rfl) ?_ (fun hHeld0 => ?_)
          · (try dsimp only); go_keep
          refine wpAnyH_take (i := 0) (oi := { dst := some 58, op := Go.Op.load 27 (Go.Operand.tmp 7), type := 27, pos := "laws.go:271", after := #[], guard := none }) (v := ?_) rfl (by kernel_rfl) (by kernel_rfl) (by kernel_rfl) (fun _ _ _ h => h) (Or.inl ⟨by rfl, ?_⟩) (by assumption) ?_
          rotate_left
          · (intro w hSw; (try dsimp only at hSw); go_simp; try with_reducible rfl)
          try simp only [Act.put, List.setIfInBounds_toArray, List.set_cons_zero, List.set_cons_succ]
          refine wpAnyH_take (i := 2) (oi := { dst := some 60, op := Go.Op.load 27 (Go.Operand.tmp 3), type := 27, pos := "laws.go:271", after := #[], guard := none }) (v := ?_) rfl (by kernel_rfl) (by kernel_rfl) (by kernel_rfl) (fun _ _ _ h => h) (Or.inl ⟨by rfl, ?_⟩) (by assumption) ?_
          rotate_left
          · (intro w hSw; (try dsimp only at hSw); go_simp; try with_reducible rfl)
          try simp only [Act.put, List.setIfInBounds_toArray, List.set_cons_zero, List.set_cons_succ]
          refine wpAnyH_take (i := 3) (oi := { dst := some 61, op := Go.Op.move (Go.Operand.tmp 5), type := 3, pos := "laws.go:271", after := #[], guard := none }) (v := ?_) rfl (by kernel_rfl) (by kernel_rfl) (by kernel_rfl) (fun _ _ _ h => h) (Or.inl ⟨by rfl, ?_⟩) (by assumption) ?_
          rotate_left
          · (intro w hSw; (try dsimp only at hSw); go_simp; try with_reducible rfl)
          try simp only [Act.put, List.setIfInBounds_toArray, List.set_cons_zero, List.set_cons_succ]
          refine wpAnyH_take (i := 4) (oi := { dst := some 62, op := Go.Op.move (Go.Operand.tmp 6), type := 3, pos := "laws.go:271", after := #[], guard := none }) (v := ?_) rfl (by kernel_rfl) (by kernel_rfl) (by kernel_rfl) (fun _ _ _ h => h) (Or.inl ⟨by rfl, ?_⟩) (by assumption) ?_
          rotate_left
          · (intro w hSw; (try dsimp only at hSw); go_simp; try with_reducible rfl)
          try simp only [Act.put, List.setIfInBounds_toArray, List.set_cons_zero, List.set_cons_succ]
          refine wpAnyH_ready (rs := [1]) (by kernel_rfl) (by simp) ?_
          refine AllReadyH.cons (o := { dst := some 59, op := Go.Op.call { callee := Go.Callee.value (Go.Operand.func 18), args := #[Go.Operand.tmp 58], argTypes := #[27] }, type := 3, pos := "laws.go:271", after := #[{ on := 0, ground := Go.Ground.data }], guard := none }) rfl (fun K1 hK1 => ?_) AllReadyH.nil
          go_simp
          (refine (A5.out _).mono ?_; rintro e v1 ⟨rfl, hb1⟩; have hw1 := Lib.hid (hld.out.dr.call hb1); obtain ⟨p10, p11, p12⟩ := hw1.out.2.1.1; obtain ⟨q10, q11, q12⟩ := hw1.out.2.2.1)
          go_wp2_with fail
          refine hK1.out _ _ ?_ (fun hHeld1 => ?_)
          · (try dsimp only); go_keep
          clear hK1 K1 hHeld0
          try simp only [Act.put, List.setIfInBounds_toArray, List.set_cons_zero, List.set_cons_succ]
          refine wpAnyH_ready (rs := [5]) (by kernel_rfl) (by simp) ?_
          refine AllReadyH.cons (o := { dst := some 63, op := Go.Op.call { callee := Go.Callee.value (Go.Operand.func 19), args := #[Go.Operand.tmp 60, Go.Operand.tmp 61, Go.Operand.tmp 62], argTypes := #[27, 3, 3] }, type := 3, pos := "laws.go:271", after := #[{ on := 2, ground := Go.Ground.data }, { on := 3, ground := Go.Ground.data }, { on := 4, ground := Go.Ground.data }, { on := 1, ground := Go.Ground.chain }], guard := none }) rfl (fun K5 hK5 => ?_) AllReadyH.nil
          go_simp
          (refine (A6.out _).mono ?_; rintro e v2 ⟨rfl, hb2⟩; have hw2 := Lib.hid (hw1.out.call hb2); obtain ⟨p20, p21, p22⟩ := hw2.out.2.1.1; obtain ⟨q20, q21, q22⟩ := hw2.out.2.2.1)
          go_wp2_with fail
          refine hK5.out _ _ ?_ (fun hHeld2 => ?_)
          · (try dsimp only); go_keep
          clear hK5 K5 hHeld1
          try simp only [Act.put, List.setIfInBounds_toArray, List.set_cons_zero, List.set_cons_succ]
          refine wpAnyH_take (i := 6) (oi := { dst := some 64, op := Go.Op.binOp Go.BinOp.eql 3 (Go.Operand.tmp 59) (Go.Operand.tmp 63) 3, type := 4, pos := "laws.go:271", after := #[{ on := 1, ground := Go.Ground.data }, { on := 5, ground := Go.Ground.data }], guard := none }) (v := ?_) rfl (by kernel_rfl) (by kernel_rfl) (by kernel_rfl) (fun _ _ _ h => h) (Or.inl ⟨by rfl, ?_⟩) (by assumption) ?_
          rotate_left
          · (intro w hSw; (try dsimp only at hSw); go_simp; try with_reducible rfl)
          try simp only [Act.put, List.setIfInBounds_toArray, List.set_cons_zero, List.set_cons_succ]
          refine wpAnyH_take (i := 7) (oi := { dst := some 65, op := Go.Op.move (Go.Operand.tmp 64), type := 4, pos := "laws.go:271", after := #[{ on := 6, ground := Go.Ground.data }, { on := 5, ground := Go.Ground.chain }], guard := none }) (v := ?_) rfl (by kernel_rfl) (by kernel_rfl) (by kernel_rfl) (fun _ _ _ h => h) (Or.inl ⟨by rfl, ?_⟩) (by assumption) ?_
          rotate_left
          · (intro w hSw; (try dsimp only at hSw); go_simp; try with_reducible rfl)
          try simp only [Act.put, List.setIfInBounds_toArray, List.set_cons_zero, List.set_cons_succ]
          refine wpAnyH_take (i := 8) (oi := { dst := some 66, op := Go.Op.load 27 (Go.Operand.tmp 7), type := 27, pos := "laws.go:271", after := #[{ on := 7, ground := Go.Ground.guard }], guard := some (7, true) }) (v := ?_) rfl (by kernel_rfl) (by kernel_rfl) (by kernel_rfl) (fun _ _ _ h => h) (Or.inl ⟨by rfl, ?_⟩) (by assumption) ?_
          rotate_left
          · (intro w hSw; (try dsimp only at hSw); go_simp; try with_reducible rfl)
          try simp only [Act.put, List.setIfInBounds_toArray, List.set_cons_zero, List.set_cons_succ]
          refine wpAnyH_take (i := 9) (oi := { dst := some 67, op := Go.Op.move (Go.Operand.tmp 5), type := 3, pos := "laws.go:271", after := #[{ on := 7, ground := Go.Ground.guard }], guard := some (7, true) }) (v := ?_) rfl (by kernel_rfl) (by kernel_rfl) (by kernel_rfl) (fun _ _ _ h => h) (Or.inl ⟨by rfl, ?_⟩) (by assumption) ?_
          rotate_left
          · (intro w hSw; (try dsimp only at hSw); go_simp; try with_reducible rfl)
          try simp only [Act.put, List.setIfInBounds_toArray, List.set_cons_zero, List.set_cons_succ]
          refine wpAnyH_take (i := 10) (oi := { dst := some 68, op := Go.Op.move (Go.Operand.tmp 6), type := 3, pos := "laws.go:271", after := #[{ on := 7, ground := Go.Ground.guard }], guard := some (7, true) }) (v := ?_) rfl (by kernel_rfl) (by kernel_rfl) (by kernel_rfl) (fun _ _ _ h => h) (Or.inl ⟨by rfl, ?_⟩) (by assumption) ?_
          rotate_left
          · (intro w hSw; (try dsimp only at hSw); go_simp; try with_reducible rfl)
          try simp only [Act.put, List.setIfInBounds_toArray, List.set_cons_zero, List.set_cons_succ]
          refine wpAnyH_take (i := 12) (oi := { dst := some 70, op := Go.Op.load 27 (Go.Operand.tmp 3), type := 27, pos := "laws.go:271", after := #[{ on := 7, ground := Go.Ground.guard }], guard := some (7, true) }) (v := ?_) rfl (by kernel_rfl) (by kernel_rfl) (by kernel_rfl) (fun _ _ _ h => h) (Or.inl ⟨by rfl, ?_⟩) (by assumption) ?_
          rotate_left
          · (intro w hSw; (try dsimp only at hSw); go_simp; try with_reducible rfl)
          try simp only [Act.put, List.setIfInBounds_toArray, List.set_cons_zero, List.set_cons_succ]
          refine wpAnyH_take (i := 13) (oi := { dst := some 71, op := Go.Op.move (Go.Operand.tmp 5), type := 3, pos := "laws.go:271", after := #[{ on := 7, ground := Go.Ground.guard }], guard := some (7, true) }) (v := ?_) rfl (by kernel_rfl) (by kernel_rfl) (by kernel_rfl) (fun _ _ _ h => h) (Or.inl ⟨by rfl, ?_⟩) (by assumption) ?_
          rotate_left
          · (intro w hSw; (try dsimp only at hSw); go_simp; try with_reducible rfl)
          try simp only [Act.put, List.setIfInBounds_toArray, List.set_cons_zero, List.set_cons_succ]
          refine wpAnyH_take (i := 14) (oi := { dst := some 72, op := Go.Op.move (Go.Operand.tmp 6), type := 3, pos := "laws.go:271", after := #[{ on := 7, ground := Go.Ground.guard }], guard := some (7, true) }) (v := ?_) rfl (by kernel_rfl) (by kernel_rfl) (by kernel_rfl) (fun _ _ _ h => h) (Or.inl ⟨by rfl, ?_⟩) (by assumption) ?_
          rotate_left
          · (intro w hSw; (try dsimp only at hSw); go_simp; try with_reducible rfl)
          try simp only [Act.put, List.setIfInBounds_toArray, List.set_cons_zero, List.set_cons_succ]
          refine wpAnyH_ready (rs := [11]) (by kernel_rfl) (by simp) ?_
          refine AllReadyH.cons (o := { dst := some 69, op := Go.Op.call { callee := Go.Callee.value (Go.Operand.func 19), args := #[Go.Operand.tmp 66, Go.Operand.tmp 67, Go.Operand.tmp 68], argTypes := #[27, 3, 3] }, type := 3, pos := "laws.go:271", after := #[{ on := 8, ground := Go.Ground.data }, { on := 9, ground := Go.Ground.data }, { on := 10, ground := Go.Ground.data }, { on := 7, ground := Go.Ground.chain }, { on := 7, ground := Go.Ground.guard }], guard := some (7, true) }) rfl (fun K11 hK11 => ?_) AllReadyH.nil
          go_simp
          (refine (A6'.out _).mono ?_; rintro e v3 ⟨rfl, hb3⟩; have hw3 := Lib.hid (hw2.out.call hb3); obtain ⟨p30, p31, p32⟩ := hw3.out.2.1.1; obtain ⟨q30, q31, q32⟩ := hw3.out.2.2.1)
          go_wp2_with fail
          refine hK11.out _ _ ?_ (fun hHeld3 => ?_)
          · (try dsimp only); go_keep
          clear hK11 K11 hHeld2
          try simp only [Act.put, List.setIfInBounds_toArray, List.set_cons_zero, List.set_cons_succ]
          refine wpAnyH_ready (rs := [15]) (by kernel_rfl) (by simp) ?_
          refine AllReadyH.cons (o := { dst := some 73, op := Go.Op.call { callee := Go.Callee.value (Go.Operand.func 19), args := #[Go.Operand.tmp 70, Go.Operand.tmp 71, Go.Operand.tmp 72], argTypes := #[27, 3, 3] }, type := 3, pos := "laws.go:271", after := #[{ on := 12, ground := Go.Ground.data }, { on := 13, ground := Go.Ground.data }, { on := 14, ground := Go.Ground.data }, { on := 11, ground := Go.Ground.chain }, { on := 7, ground := Go.Ground.guard }], guard := some (7, true) }) rfl (fun K15 hK15 => ?_) AllReadyH.nil
          go_simp
          (refine (A6.out _).mono ?_; rintro e v4 ⟨rfl, hb4⟩; have hw4 := Lib.hid (hw3.out.call hb4); obtain ⟨p40, p41, p42⟩ := hw4.out.2.1.1; obtain ⟨q40, q41, q42⟩ := hw4.out.2.2.1)
          go_wp2_with fail
          refine hK15.out _ _ ?_ (fun hHeld4 => ?_)
          · (try dsimp only); go_keep
          clear hK15 K15 hHeld3
          try simp only [Act.put, List.setIfInBounds_toArray, List.set_cons_zero, List.set_cons_succ]
          refine wpAnyH_take (i := 16) (oi := { dst := some 74, op := Go.Op.binOp Go.BinOp.eql 3 (Go.Operand.tmp 69) (Go.Operand.tmp 73) 3, type := 4, pos := "laws.go:271", after := #[{ on := 11, ground := Go.Ground.data }, { on := 15, ground := Go.Ground.data }, { on := 7, ground := Go.Ground.guard }], guard := some (7, true) }) (v := ?_) rfl (by kernel_rfl) (by kernel_rfl) (by kernel_rfl) (fun _ _ _ h => h) (Or.inl ⟨by rfl, ?_⟩) (by assumption) ?_
          rotate_left
          · (intro w hSw; (try dsimp only at hSw); go_simp; try with_reducible rfl)
          try simp only [Act.put, List.setIfInBounds_toArray, List.set_cons_zero, List.set_cons_succ]
          refine wpAnyH_take (i := 17) (oi := { dst := some 75, op := Go.Op.pick (Go.Operand.tmp 65) (Go.Operand.tmp 74) (Go.Operand.const (Go.Value.bool false)), type := 4, pos := "laws.go:271", after := #[{ on := 7, ground := Go.Ground.data }, { on := 16, ground := Go.Ground.data }], guard := none }) (v := ?_) rfl (by kernel_rfl) (by kernel_rfl) (by kernel_rfl) (fun _ _ _ h => h) (Or.inl ⟨by rfl, ?_⟩) (by assumption) ?_
          rotate_left
          · (intro w hSw; (try dsimp only at hSw); go_simp; try with_reducible rfl)
          try simp only [Act.put, List.setIfInBounds_toArray, List.set_cons_zero, List.set_cons_succ]
          refine wpAnyH_take (i := 18) (oi := { dst := some 76, op := Go.Op.move (Go.Operand.tmp 75), type := 4, pos := "laws.go:271", after := #[{ on := 17, ground := Go.Ground.data }, { on := 15, ground := Go.Ground.chain }], guard := none }) (v := ?_) rfl (by kernel_rfl) (by kernel_rfl) (by kernel_rfl) (fun _ _ _ h => h) (Or.inl ⟨by rfl, ?_⟩) (by assumption) ?_
          rotate_left
          · (intro w hSw; (try dsimp only at hSw); go_simp; try with_reducible rfl)
          try simp only [Act.put, List.setIfInBounds_toArray, List.set_cons_zero, List.set_cons_succ]
          refine wpAnyH_take (i := 19) (oi := { dst := some 77, op := Go.Op.load 27 (Go.Operand.tmp 3), type := 27, pos := "laws.go:271", after := #[{ on := 18, ground := Go.Ground.guard }], guard := some (18, true) }) (v := ?_) rfl (by kernel_rfl) (by kernel_rfl) (by kernel_rfl) (fun _ _ _ h => h) (Or.inl ⟨by rfl, ?_⟩) (by assumption) ?_
          rotate_left
          · (intro w hSw; (try dsimp only at hSw); go_simp; try with_reducible rfl)
          try simp only [Act.put, List.setIfInBounds_toArray, List.set_cons_zero, List.set_cons_succ]
          refine wpAnyH_take (i := 21) (oi := { dst := some 79, op := Go.Op.move (Go.Operand.tmp 4), type := 3, pos := "laws.go:271", after := #[{ on := 18, ground := Go.Ground.guard }], guard := some (18, true) }) (v := ?_) rfl (by kernel_rfl) (by kernel_rfl) (by kernel_rfl) (fun _ _ _ h => h) (Or.inl ⟨by rfl, ?_⟩) (by assumption) ?_
          rotate_left
          · (intro w hSw; (try dsimp only at hSw); go_simp; try with_reducible rfl)
          try simp only [Act.put, List.setIfInBounds_toArray, List.set_cons_zero, List.set_cons_succ]
          refine wpAnyH_ready (rs := [20]) (by kernel_rfl) (by simp) ?_
          refine AllReadyH.cons (o := { dst := some 78, op := Go.Op.call { callee := Go.Callee.value (Go.Operand.func 20), args := #[Go.Operand.tmp 77], argTypes := #[27] }, type := 3, pos := "laws.go:271", after := #[{ on := 19, ground := Go.Ground.data }, { on := 18, ground := Go.Ground.chain }, { on := 18, ground := Go.Ground.guard }], guard := some (18, true) }) rfl (fun K20 hK20 => ?_) AllReadyH.nil
          go_simp
          (refine (A7.out _).mono ?_; rintro e v5 ⟨rfl, hb5⟩; have hw5 := Lib.hid (hw4.out.call hb5); obtain ⟨p50, p51, p52⟩ := hw5.out.2.1.1; obtain ⟨q50, q51, q52⟩ := hw5.out.2.2.1)
          go_wp2_with fail
          refine hK20.out _ _ ?_ (fun hHeld5 => ?_)
          · (try dsimp only); go_keep
          clear hK20 K20 hHeld4
          try simp only [Act.put, List.setIfInBounds_toArray, List.set_cons_zero, List.set_cons_succ]
          refine wpAnyH_take (i := 22) (oi := { dst := some 80, op := Go.Op.binOp Go.BinOp.leq 3 (Go.Operand.tmp 78) (Go.Operand.tmp 79) 3, type := 4, pos := "laws.go:271", after := #[{ on := 20, ground := Go.Ground.data }, { on := 21, ground := Go.Ground.data }, { on := 18, ground := Go.Ground.guard }], guard := some (18, true) }) (v := ?_) rfl (by kernel_rfl) (by kernel_rfl) (by kernel_rfl) (fun _ _ _ h => h) (Or.inl ⟨by rfl, ?_⟩) (by assumption) ?_
          rotate_left
          · (intro w hSw; (try dsimp only at hSw); go_simp; try with_reducible rfl)
          try simp only [Act.put, List.setIfInBounds_toArray, List.set_cons_zero, List.set_cons_succ]
          refine wpAnyH_take (i := 23) (oi := { dst := some 81, op := Go.Op.pick (Go.Operand.tmp 76) (Go.Operand.tmp 80) (Go.Operand.const (Go.Value.bool false)), type := 4, pos := "laws.go:271", after := #[{ on := 18, ground := Go.Ground.data }, { on := 22, ground := Go.Ground.data }], guard := none }) (v := ?_) rfl (by kernel_rfl) (by kernel_rfl) (by kernel_rfl) (fun _ _ _ h => h) (Or.inl ⟨by rfl, ?_⟩) (by assumption) ?_
          rotate_left
          · (intro w hSw; (try dsimp only at hSw); go_simp; try with_reducible rfl)
          try simp only [Act.put, List.setIfInBounds_toArray, List.set_cons_zero, List.set_cons_succ]
          refine wpAnyH_take (i := 24) (oi := { dst := some 82, op := Go.Op.move (Go.Operand.tmp 81), type := 4, pos := "laws.go:271", after := #[{ on := 23, ground := Go.Ground.data }, { on := 20, ground := Go.Ground.chain }], guard := none }) (v := ?_) rfl (by kernel_rfl) (by kernel_rfl) (by kernel_rfl) (fun _ _ _ h => h) (Or.inl ⟨by rfl, ?_⟩) (by assumption) ?_
          rotate_left
          · (intro w hSw; (try dsimp only at hSw); go_simp; try with_reducible rfl)
          try simp only [Act.put, List.setIfInBounds_toArray, List.set_cons_zero, List.set_cons_succ]
          refine wpAnyH_take (i := 25) (oi := { dst := some 83, op := Go.Op.load 27 (Go.Operand.tmp 3), type := 27, pos := "laws.go:271", after := #[{ on := 24, ground := Go.Ground.guard }], guard := some (24, true) }) (v := ?_) rfl (by kernel_rfl) (by kernel_rfl) (by kernel_rfl) (fun _ _ _ h => h) (Or.inl ⟨by rfl, ?_⟩) (by assumption) ?_
          rotate_left
          · (intro w hSw; (try dsimp only at hSw); go_simp; try with_reducible rfl)
          try simp only [Act.put, List.setIfInBounds_toArray, List.set_cons_zero, List.set_cons_succ]
          refine wpAnyH_ready (rs := [26]) (by kernel_rfl) (by simp) ?_
          refine AllReadyH.cons (o := { dst := some 84, op := Go.Op.call { callee := Go.Callee.value (Go.Operand.func 13), args := #[Go.Operand.tmp 83, Go.Operand.const (Go.Value.slice none 0 0)], argTypes := #[27, 32] }, type := 27, pos := "laws.go:271", after := #[{ on := 25, ground := Go.Ground.data }, { on := 24, ground := Go.Ground.chain }, { on := 24, ground := Go.Ground.guard }], guard := some (24, true) }) rfl (fun K26 hK26 => ?_) AllReadyH.nil
          go_simp
          (refine (A8.out _).mono ?_; rintro e v6 ⟨rfl, hb6⟩; have hw6 := Lib.hid (hw5.out.call hb6); obtain ⟨p60, p61, p62⟩ := hw6.out.2.1.1; obtain ⟨q60, q61, q62⟩ := hw6.out.2.2.1)
          go_wp2_with fail
          refine hK26.out _ _ ?_ (fun hHeld6 => ?_)
          · (try dsimp only); go_keep
          clear hK26 K26 hHeld5
          try simp only [Act.put, List.setIfInBounds_toArray, List.set_cons_zero, List.set_cons_succ]
          refine wpAnyH_ready (rs := [27]) (by kernel_rfl) (by simp) ?_
          refine AllReadyH.cons (o := { dst := some 85, op := Go.Op.call { callee := Go.Callee.value (Go.Operand.func 18), args := #[Go.Operand.tmp 84], argTypes := #[27] }, type := 3, pos := "laws.go:271", after := #[{ on := 26, ground := Go.Ground.data }, { on := 26, ground := Go.Ground.chain }, { on := 24, ground := Go.Ground.guard }], guard := some (24, true) }) rfl (fun K27 hK27 => ?_) AllReadyH.nil
          go_simp
          (refine (A5'.out _).mono ?_; rintro e v7 ⟨rfl, hb7⟩; have hw7 := Lib.hid (hw6.out.call hb7); obtain ⟨p70, p71, p72⟩ := hw7.out.2.1.1; obtain ⟨q70, q71, q72⟩ := hw7.out.2.2.1)
          go_wp2_with fail
          refine hK27.out _ _ ?_ (fun hHeld7 => ?_)
          · (try dsimp only); go_keep
          clear hK27 K27 hHeld6
          try simp only [Act.put, List.setIfInBounds_toArray, List.set_cons_zero, List.set_cons_succ]
          refine wpAnyH_take (i := 28) (oi := { dst := some 86, op := Go.Op.binOp Go.BinOp.eql 3 (Go.Operand.tmp 85) (Go.Operand.const (Go.Value.int Go.IntKind.i64 0)) 3, type := 4, pos := "laws.go:271", after := #[{ on := 27, ground := Go.Ground.data }, { on := 24, ground := Go.Ground.guard }], guard := some (24, true) }) (v := ?_) rfl (by kernel_rfl) (by kernel_rfl) (by kernel_rfl) (fun _ _ _ h => h) (Or.inl ⟨by rfl, ?_⟩) (by assumption) ?_
          rotate_left
          · (intro w hSw; (try dsimp only at hSw); go_simp; try with_reducible rfl)
          try simp only [Act.put, List.setIfInBounds_toArray, List.set_cons_zero, List.set_cons_succ]
          refine wpAnyH_take (i := 29) (oi := { dst := some 87, op := Go.Op.pick (Go.Operand.tmp 82) (Go.Operand.tmp 86) (Go.Operand.const (Go.Value.bool false)), type := 4, pos := "laws.go:271", after := #[{ on := 24, ground := Go.Ground.data }, { on := 28, ground := Go.Ground.data }], guard := none }) (v := ?_) rfl (by kernel_rfl) (by kernel_rfl) (by kernel_rfl) (fun _ _ _ h => h) (Or.inl ⟨by rfl, ?_⟩) (by assumption) ?_
          rotate_left
          · (intro w hSw; (try dsimp only at hSw); go_simp; try with_reducible rfl)
          try simp only [Act.put, List.setIfInBounds_toArray, List.set_cons_zero, List.set_cons_succ]
          refine wpAnyH_take (i := 30) (oi := { dst := some 2, op := Go.Op.assign (Go.Operand.tmp 87), type := 4, pos := "laws.go:271", after := #[{ on := 29, ground := Go.Ground.data }, { on := 27, ground := Go.Ground.chain }, { on := 0, ground := Go.Ground.phase }, { on := 1, ground := Go.Ground.phase }, { on := 2, ground := Go.Ground.phase }, { on := 3, ground := Go.Ground.phase }, { on := 4, ground := Go.Ground.phase }, { on := 5, ground := Go.Ground.phase }, { on := 6, ground := Go.Ground.phase }, { on := 7, ground := Go.Ground.phase }, { on := 8, ground := Go.Ground.phase }, { on := 9, ground := Go.Ground.phase }, { on := 10, ground := Go.Ground.phase }, { on := 11, ground := Go.Ground.phase }, { on := 12, ground := Go.Ground.phase }, { on := 13, ground := Go.Ground.phase }, { on := 14, ground := Go.Ground.phase }, { on := 15, ground := Go.Ground.phase }, { on := 16, ground := Go.Ground.phase }, { on := 17, ground := Go.Ground.phase }, { on := 18, ground := Go.Ground.phase }, { on := 19, ground := Go.Ground.phase }, { on := 20, ground := Go.Ground.phase }, { on := 21, ground := Go.Ground.phase }, { on := 22, ground := Go.Ground.phase }, { on := 23, ground := Go.Ground.phase }, { on := 24, ground := Go.Ground.phase }, { on := 25, ground := Go.Ground.phase }, { on := 26, ground := Go.Ground.phase }, { on := 27, ground := Go.Ground.phase }, { on := 28, ground := Go.Ground.phase }, { on := 29, ground := Go.Ground.phase }], guard := none }) (v := ?_) rfl (by kernel_rfl) (by kernel_rfl) (by kernel_rfl) (fun _ _ _ h => h) (Or.inl ⟨by rfl, ?_⟩) (by assumption) ?_
          rotate_left
          · (intro w hSw; (try dsimp only at hSw); go_simp; try with_reducible rfl)
          try simp only [Act.put, List.setIfInBounds_toArray, List.set_cons_zero, List.set_cons_succ]
          refine wpAnyH_done (by kernel_rfl) ?_ _
          go_wp2_with fail
          go_ret
          exact HK.out _ hw7.out.1
end Go.Proofs.Ytcoikcnijaniaaa.fnDeadEnds
