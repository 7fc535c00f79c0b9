/- The contracts of the model's functions on ways. -/
import Derived.Test.YtgocbnnhhpmndaaWayP
import Derived.Test.YtgocbnnhhpmndaaRchM
import Derived.Test.YtgocbnnhhpmndaaListK
namespace Go.Proofs.Ytgocbnnhhpmndaa.wayM
open Go.ChangeShapes Go.WideShapes Go.ChangeAt Go.RowKit
open draw gridP gridC gridE bitP mazeP mazeC mazeM mazeS intsP reachP reachM reachN reachD intA listK wayP
set_option linter.unusedVariables false

theorem bq_mk {a b : Bool} {w : World} (h : b = a) : Ending.returned (.bool a) = Ending.returned (.bool b) ∧ w = w := ⟨by rw [h], rfl⟩
theorem ww_no {x y z a : Int} {l : List Int} (h : wwB x y z a l = false) : wwZ x y z a l = -1 := by unfold wwZ; rw [if_neg (by rw [h]; simp)]
theorem ww_yes {x y z a : Int} {l : List Int} (h : wwB x y z a l = true) : wwZ x y z a l = wkZ x y z l a := by unfold wwZ; rw [if_pos h]

set_option maxRecDepth 100000 in
theorem way_any (A : Option Addr) (n c : Nat) (l : List Int) (W : World) (hn : l.length = n) (hm : n ≤ 1048576) (hi : IntsIn W W.heap.size A l) :
    Calls Try.prog 45 #[.slice A n c] W fun e w' => e = .returned (.bool (wayB l)) ∧ W = w' := by
  have HI := Lib.hid (fun x a b X => in_b x a b X)
  have HY := Lib.hid hi
  have Hn := Lib.hid hn
  clear hi hn
  go_enter Try.func45, Try.ntmps45
  go_wp2_with fail
  go_loopw [3] (fun u3 wr => ∃ k : Nat, k ≤ n ∧ u3 = .int .i64 k ∧ (∀ j d, j < k → l[j]? = some d → 0 ≤ d ∧ d ≤ 3) ∧ wr = W) (fun u3 _ => n - (intOf u3).toNat)
  case atStart => exact ⟨0, Nat.zero_le _, rfl, fun j d hj => absurd hj (by omega), rfl⟩
  case round =>
    obtain ⟨k, hk, rfl, hin, rfl⟩ := hrel
    have HIn := Lib.hid hin
    clear hin
    by_cases hkn : k < n
    · obtain ⟨u, hu, hmem⟩ : ∃ u, l[k]? = some u ∧ u ∈ l := by
        have hkl : k < l.length := by have := Hn.out; omega
        exact ⟨l[k], List.getElem?_eq_getElem hkl, List.getElem_mem hkl⟩
      obtain ⟨ad, rfl, hab, hcell⟩ := ints_cell HY.out hu
      have hk0 : (0 : Int) ≤ (k : Int) := Int.natCast_nonneg _
      have hk1 : (k : Int) < (n : Int) := by omega
      by_cases hd : 0 ≤ u ∧ u ≤ 3
      · have hinb : inB u 0 3 = true := decide_eq_true hd
        have HN : Hid (∀ j d, j < k + 1 → l[j]? = some d → 0 ≤ d ∧ d ≤ 3) := fun j d hj hl => by
          rcases Nat.lt_or_ge j k with h | h
          · exact HIn.out j d h hl
          · obtain rfl : j = k := by omega
            rw [hu] at hl; cases hl; exact hd
        clear hd hu hmem
        go_wp2_with fail
        refine (HI.out _ _ _ _).mono ?_
        rintro e w' ⟨rfl, rfl⟩
        go_wp2_with fail
        go_roundw
        case rel => exact ⟨k + 1, by omega, by go_num, HN.out, by trivial⟩
        case measure => simp [intOf]; omega
      · have hinb : inB u 0 3 = false := decide_eq_false hd
        have HE : Hid (wayB l = false) := Lib.hid (by rw [← Bool.not_eq_true, way_mem]; exact fun h => hd (h u hmem))
        clear hd hu hmem
        go_wp2_with fail
        refine (HI.out _ _ _ _).mono ?_
        rintro e w' ⟨rfl, rfl⟩
        go_wp2_with fail
        go_ret
        exact bq_mk HE.out
    · obtain rfl : k = n := by omega
      have HE : Hid (wayB l = true) := Lib.hid (by
        rw [way_mem]; intro d hd
        obtain ⟨j, hj⟩ := List.getElem?_of_mem hd
        have := (List.getElem?_eq_some_iff.1 hj).1
        exact HIn.out j d (by have := Hn.out; omega) hj)
      go_wp2_with fail
      go_ret
      exact bq_mk HE.out

/-- While a walk is under way: the maze's box, the directions. -/
def WW (W : World) (x y z : Int) (A : Option Addr) (l : List Int) (X : World) : Prop := Below W.heap.size W X ∧ MBox W.heap.size x y z X ∧ IntsIn X W.heap.size A l
theorem WW.call {W X X' : World} {x y z : Int} {A : Option Addr} {l : List Int} (h : WW W x y z A l X) (hb : Below X.heap.size X X') : WW W x y z A l X' :=
  ⟨below_call h.1 hb, h.2.1.call hb, h.2.2.below (hb.mono h.1.size)⟩
theorem WW.dr {W X : World} {x y z : Int} {A : Option Addr} {l : List Int} (h : WW W x y z A l X) : WW W x y z A l X.drew := h.call ⟨rfl, rfl, rfl, Nat.le_refl _, fun _ _ => rfl⟩
theorem WW.low {W X X' : World} {B : Nat} {x y z : Int} {A : Option Addr} {l : List Int} (h : WW W x y z A l X) (hB : W.heap.size < B) (hb : Below B X X') (hbl : Below W.heap.size W X') : WW W x y z A l X' :=
  ⟨hbl, mbox_keep h.2.1 hB hb, IntsIn.low h.2.2 (Nat.le_of_lt hB) hb⟩
theorem ww_new {W : World} {x y z : Int} {A : Option Addr} {l : List Int} (hi : IntsIn W W.heap.size A l) (T : TypeId) : WW W x y z A l (W.alloc (.cells #[.int .i64 x, .int .i64 y, .int .i64 z] T)) :=
  ⟨below_box W _, mbox_new x y z W T, hi.below (below_box W _)⟩

set_option maxRecDepth 100000 in
theorem walkWay_any (x y z a : Int) (A : Option Addr) (n c : Nat) (l : List Int) (W : World) (hn : l.length = n) (hm : n ≤ 1048576) (hi : IntsIn W W.heap.size A l) :
    Calls Try.prog 12 #[.agg #[.int .i64 x, .int .i64 y, .int .i64 z], .int .i64 a, .slice A n c] W (NmB (wwZ x y z a l) (wwB x y z a l) W) := by
  have HH := Lib.hid (fun X => reachS.has_any x y z a X)
  have HS := Lib.hid (fun c d X => step_any x y z c d X)
  have HW := Lib.hid (fun T => @ww_new W x y z A l hi T)
  have Hn := Lib.hid hn
  have HNo : Hid (wwB x y z a l = false → ∀ X, Below W.heap.size W X → NmB (wwZ x y z a l) (wwB x y z a l) W (.returned (.tuple #[.int .i64 (-1), .bool false])) X) := fun h X hb => by
    rw [ww_no h, h]; exact ⟨rfl, hb⟩
  by_cases hh : hasB x y z a = true
  · rw [hh] at HH
    by_cases h400 : n ≤ 400
    · have hd4 : decide ((400 : Int) < (n : Int)) = false := by simp; omega
      have ha0 : 0 ≤ a := (of_decide_eq_true hh).2.1
      have HF : Hid (wkZ x y z l a < 0 → wwB x y z a l = false) := fun h => by
        unfold wwB; rw [decide_eq_false (show ¬ 0 ≤ wkZ x y z l a by omega)]; simp
      have HT : Hid (0 ≤ wkZ x y z l a → ∀ X, Below W.heap.size W X → NmB (wwZ x y z a l) (wwB x y z a l) W (.returned (.tuple #[.int .i64 (wkZ x y z l a), .bool true])) X) := fun h X hb => by
        have e : wwB x y z a l = true := by unfold wwB; rw [hh, decide_eq_true h, decide_eq_true (show l.length ≤ 400 by omega)]; rfl
        rw [ww_yes e, e]; exact ⟨rfl, hb⟩
      clear hi hn hh h400
      go_enter Try.func12, Try.ntmps12
      go_wp2_with fail
      have hww0 := Lib.hid (HW.out 30)
      refine (HH.out _).mono ?_
      rintro e w1 ⟨rfl, hb⟩
      have hww1 := Lib.hid (hww0.out.call hb)
      clear hb hww0 HW
      go_wp2_with fail
      go_loopw [1, 8] (fun u1 u8 wr => ∃ k : Nat, k ≤ n ∧ u8 = .int .i64 k ∧ u1 = .int .i64 (wkZ x y z (l.take k) a) ∧ 0 ≤ wkZ x y z (l.take k) a ∧ WW W x y z A l wr) (fun _ u8 _ => n - (intOf u8).toNat)
      case atStart => exact ⟨0, Nat.zero_le _, rfl, rfl, ha0, hww1.out⟩
      case round =>
        clear hww1
        obtain ⟨k, hk, rfl, rfl, hp, hww0⟩ := hrel
        have hww := Lib.hid hww0
        clear hww0
        by_cases hkn : k < n
        · obtain ⟨u, hu⟩ : ∃ u, l[k]? = some u := by
            have hkl : k < l.length := by have := Hn.out; omega
            exact ⟨l[k], List.getElem?_eq_getElem hkl⟩
          obtain ⟨ad, rfl, hab, hcell⟩ := ints_cell hww.out.2.2 hu
          obtain ⟨m0, m1, m2⟩ := hww.out.2.1.1
          have hk0 : (0 : Int) ≤ (k : Int) := Int.natCast_nonneg _
          have hk1 : (k : Int) < (n : Int) := by omega
          have HNx := Lib.hid (wkZ_next ha0 hu hp)
          have HU := Lib.hid hu
          clear hu hp
          generalize wkZ x y z (l.take k) a = cc at *
          by_cases hs : stZ x y z cc u < 0
          · have HE := Lib.hid (HNo.out (HF.out (by have := wkZ_fail (x := x) (y := y) (z := z) (l := l) (k := k + 1) ha0 (by rw [HNx.out]; exact hs); omega)))
            have HSt := Lib.hid (fun X => HS.out cc u X)
            generalize stZ x y z cc u = s at *
            clear HNx HS HT HF HNo
            go_wp2_with fail
            try simp only [List.cons_append, List.nil_append, List.append_eq]
            refine wp_region_held_drew (S := (fun w' => w'.cell? (ad.add k) = some (.int .i64 u) ∧ w'.cell? ⟨W.heap.size, 0, none⟩ = some (.int .i64 x) ∧ w'.cell? ⟨W.heap.size, 1, none⟩ = some (.int .i64 y) ∧ w'.cell? ⟨W.heap.size, 2, none⟩ = some (.int .i64 z))) (by kernel_rfl) ?_ (fun hHeld0 => ?_)
            · (try dsimp only); go_keep
            refine wpAnyH_take (i := 0) (oi := { dst := some 24, op := Go.Op.load 30 (Go.Operand.tmp 3), type := 30, pos := "l06_way.go:32", after := #[], guard := none }) (v := ?_) rfl (by kernel_rfl) (by kernel_rfl) (by kernel_rfl) (fun _ _ _ h => h) (Or.inl ⟨by rfl, ?_⟩) (by assumption) ?_
            rotate_left
            · (intro w hSw; (try dsimp only at hSw); go_simp; try with_reducible rfl)
            try simp only [Act.put, List.setIfInBounds_toArray, List.set_cons_zero, List.set_cons_succ]
            refine wpAnyH_take (i := 1) (oi := { dst := some 25, op := Go.Op.move (Go.Operand.tmp 1), type := 3, pos := "l06_way.go:32", after := #[], guard := none }) (v := ?_) rfl (by kernel_rfl) (by kernel_rfl) (by kernel_rfl) (fun _ _ _ h => h) (Or.inl ⟨by rfl, ?_⟩) (by assumption) ?_
            rotate_left
            · (intro w hSw; (try dsimp only at hSw); go_simp; try with_reducible rfl)
            try simp only [Act.put, List.setIfInBounds_toArray, List.set_cons_zero, List.set_cons_succ]
            refine wpAnyH_take (i := 2) (oi := { dst := some 26, op := Go.Op.move (Go.Operand.tmp 2), type := 26, pos := "l06_way.go:32", after := #[], guard := none }) (v := ?_) rfl (by kernel_rfl) (by kernel_rfl) (by kernel_rfl) (fun _ _ _ h => h) (Or.inl ⟨by rfl, ?_⟩) (by assumption) ?_
            rotate_left
            · (intro w hSw; (try dsimp only at hSw); go_simp; try with_reducible rfl)
            try simp only [Act.put, List.setIfInBounds_toArray, List.set_cons_zero, List.set_cons_succ]
            refine wpAnyH_take (i := 3) (oi := { dst := some 27, op := Go.Op.move (Go.Operand.tmp 8), type := 3, pos := "l06_way.go:32", after := #[], guard := none }) (v := ?_) rfl (by kernel_rfl) (by kernel_rfl) (by kernel_rfl) (fun _ _ _ h => h) (Or.inl ⟨by rfl, ?_⟩) (by assumption) ?_
            rotate_left
            · (intro w hSw; (try dsimp only at hSw); go_simp; try with_reducible rfl)
            try simp only [Act.put, List.setIfInBounds_toArray, List.set_cons_zero, List.set_cons_succ]
            refine wpAnyH_take (i := 4) (oi := { dst := some 28, op := Go.Op.indexAddr 26 (Go.Operand.tmp 26) (Go.Operand.tmp 27), type := 0, pos := "l06_way.go:32", after := #[{ on := 2, ground := Go.Ground.data }, { on := 3, ground := Go.Ground.data }], guard := none }) (v := ?_) rfl (by kernel_rfl) (by kernel_rfl) (by kernel_rfl) (fun _ _ _ h => h) (Or.inl ⟨by rfl, ?_⟩) (by assumption) ?_
            rotate_left
            · (intro w hSw; (try dsimp only at hSw); go_simp; try with_reducible rfl)
            try simp only [Act.put, List.setIfInBounds_toArray, List.set_cons_zero, List.set_cons_succ]
            refine wpAnyH_take (i := 5) (oi := { dst := some 29, op := Go.Op.load 3 (Go.Operand.tmp 28), type := 3, pos := "l06_way.go:32", after := #[{ on := 4, ground := Go.Ground.data }], guard := none }) (v := ?_) rfl (by kernel_rfl) (by kernel_rfl) (by kernel_rfl) (fun _ _ _ h => h) (Or.inl ⟨by rfl, ?_⟩) (by assumption) ?_
            rotate_left
            · (intro w hSw; (try dsimp only at hSw); go_simp; try with_reducible rfl)
            try simp only [Act.put, List.setIfInBounds_toArray, List.set_cons_zero, List.set_cons_succ]
            refine wpAnyH_ready (rs := [6]) (by kernel_rfl) (by simp) ?_
            refine AllReadyH.cons (o := { dst := some 30, op := Go.Op.call { callee := Go.Callee.value (Go.Operand.func 40), args := #[Go.Operand.tmp 24, Go.Operand.tmp 25, Go.Operand.tmp 29], argTypes := #[30, 3, 3] }, type := 3, pos := "l06_way.go:32", after := #[{ on := 0, ground := Go.Ground.data }, { on := 1, ground := Go.Ground.data }, { on := 5, ground := Go.Ground.data }], guard := none }) rfl (fun K6 hK6 => ?_) AllReadyH.nil
            go_simp
            (refine (HSt.out _).mono ?_; rintro e v1 ⟨rfl, hb1⟩; have hw2 := Lib.hid (hww.out.dr.call hb1); obtain ⟨p1, q1, r1⟩ := hw2.out.2.1.1; obtain ⟨ad', hae, -, hc1⟩ := ints_cell hw2.out.2.2 HU.out; cases hae)
            go_wp2_with fail
            refine hK6.out _ _ ?_ (fun hHeld1 => ?_)
            · (try dsimp only); go_keep
            clear hK6 K6 hHeld0
            try simp only [Act.put, List.setIfInBounds_toArray, List.set_cons_zero, List.set_cons_succ]
            refine wpAnyH_take (i := 7) (oi := { dst := some 1, op := Go.Op.assign (Go.Operand.tmp 30), type := 3, pos := "l06_way.go:32", after := #[{ on := 6, ground := Go.Ground.data }, { on := 6, ground := Go.Ground.chain }, { on := 0, ground := Go.Ground.phase }, { on := 1, ground := Go.Ground.phase }, { on := 2, ground := Go.Ground.phase }, { on := 3, ground := Go.Ground.phase }, { on := 4, ground := Go.Ground.phase }, { on := 5, ground := Go.Ground.phase }, { on := 6, ground := Go.Ground.phase }], guard := none }) (v := ?_) rfl (by kernel_rfl) (by kernel_rfl) (by kernel_rfl) (fun _ _ _ h => h) (Or.inl ⟨by rfl, ?_⟩) (by assumption) ?_
            rotate_left
            · (intro w hSw; (try dsimp only at hSw); go_simp; try with_reducible rfl)
            try simp only [Act.put, List.setIfInBounds_toArray, List.set_cons_zero, List.set_cons_succ]
            refine wpAnyH_done (by kernel_rfl) ?_ _
            go_wp2_with fail
            go_ret2
            exact HE.out _ hw2.out.1
          · have HSt := Lib.hid (fun X => HS.out cc u X)
            have hs0 : 0 ≤ stZ x y z cc u := by omega
            clear HS HT HF HNo
            generalize stZ x y z cc u = s at *
            go_wp2_with fail
            try simp only [List.cons_append, List.nil_append, List.append_eq]
            refine wp_region_held_drew (S := (fun w' => w'.cell? (ad.add k) = some (.int .i64 u) ∧ w'.cell? ⟨W.heap.size, 0, none⟩ = some (.int .i64 x) ∧ w'.cell? ⟨W.heap.size, 1, none⟩ = some (.int .i64 y) ∧ w'.cell? ⟨W.heap.size, 2, none⟩ = some (.int .i64 z))) (by kernel_rfl) ?_ (fun hHeld0 => ?_)
            · (try dsimp only); go_keep
            refine wpAnyH_take (i := 0) (oi := { dst := some 24, op := Go.Op.load 30 (Go.Operand.tmp 3), type := 30, pos := "l06_way.go:32", after := #[], guard := none }) (v := ?_) rfl (by kernel_rfl) (by kernel_rfl) (by kernel_rfl) (fun _ _ _ h => h) (Or.inl ⟨by rfl, ?_⟩) (by assumption) ?_
            rotate_left
            · (intro w hSw; (try dsimp only at hSw); go_simp; try with_reducible rfl)
            try simp only [Act.put, List.setIfInBounds_toArray, List.set_cons_zero, List.set_cons_succ]
            refine wpAnyH_take (i := 1) (oi := { dst := some 25, op := Go.Op.move (Go.Operand.tmp 1), type := 3, pos := "l06_way.go:32", after := #[], guard := none }) (v := ?_) rfl (by kernel_rfl) (by kernel_rfl) (by kernel_rfl) (fun _ _ _ h => h) (Or.inl ⟨by rfl, ?_⟩) (by assumption) ?_
            rotate_left
            · (intro w hSw; (try dsimp only at hSw); go_simp; try with_reducible rfl)
            try simp only [Act.put, List.setIfInBounds_toArray, List.set_cons_zero, List.set_cons_succ]
            refine wpAnyH_take (i := 2) (oi := { dst := some 26, op := Go.Op.move (Go.Operand.tmp 2), type := 26, pos := "l06_way.go:32", after := #[], guard := none }) (v := ?_) rfl (by kernel_rfl) (by kernel_rfl) (by kernel_rfl) (fun _ _ _ h => h) (Or.inl ⟨by rfl, ?_⟩) (by assumption) ?_
            rotate_left
            · (intro w hSw; (try dsimp only at hSw); go_simp; try with_reducible rfl)
            try simp only [Act.put, List.setIfInBounds_toArray, List.set_cons_zero, List.set_cons_succ]
            refine wpAnyH_take (i := 3) (oi := { dst := some 27, op := Go.Op.move (Go.Operand.tmp 8), type := 3, pos := "l06_way.go:32", after := #[], guard := none }) (v := ?_) rfl (by kernel_rfl) (by kernel_rfl) (by kernel_rfl) (fun _ _ _ h => h) (Or.inl ⟨by rfl, ?_⟩) (by assumption) ?_
            rotate_left
            · (intro w hSw; (try dsimp only at hSw); go_simp; try with_reducible rfl)
            try simp only [Act.put, List.setIfInBounds_toArray, List.set_cons_zero, List.set_cons_succ]
            refine wpAnyH_take (i := 4) (oi := { dst := some 28, op := Go.Op.indexAddr 26 (Go.Operand.tmp 26) (Go.Operand.tmp 27), type := 0, pos := "l06_way.go:32", after := #[{ on := 2, ground := Go.Ground.data }, { on := 3, ground := Go.Ground.data }], guard := none }) (v := ?_) rfl (by kernel_rfl) (by kernel_rfl) (by kernel_rfl) (fun _ _ _ h => h) (Or.inl ⟨by rfl, ?_⟩) (by assumption) ?_
            rotate_left
            · (intro w hSw; (try dsimp only at hSw); go_simp; try with_reducible rfl)
            try simp only [Act.put, List.setIfInBounds_toArray, List.set_cons_zero, List.set_cons_succ]
            refine wpAnyH_take (i := 5) (oi := { dst := some 29, op := Go.Op.load 3 (Go.Operand.tmp 28), type := 3, pos := "l06_way.go:32", after := #[{ on := 4, ground := Go.Ground.data }], guard := none }) (v := ?_) rfl (by kernel_rfl) (by kernel_rfl) (by kernel_rfl) (fun _ _ _ h => h) (Or.inl ⟨by rfl, ?_⟩) (by assumption) ?_
            rotate_left
            · (intro w hSw; (try dsimp only at hSw); go_simp; try with_reducible rfl)
            try simp only [Act.put, List.setIfInBounds_toArray, List.set_cons_zero, List.set_cons_succ]
            refine wpAnyH_ready (rs := [6]) (by kernel_rfl) (by simp) ?_
            refine AllReadyH.cons (o := { dst := some 30, op := Go.Op.call { callee := Go.Callee.value (Go.Operand.func 40), args := #[Go.Operand.tmp 24, Go.Operand.tmp 25, Go.Operand.tmp 29], argTypes := #[30, 3, 3] }, type := 3, pos := "l06_way.go:32", after := #[{ on := 0, ground := Go.Ground.data }, { on := 1, ground := Go.Ground.data }, { on := 5, ground := Go.Ground.data }], guard := none }) rfl (fun K6 hK6 => ?_) AllReadyH.nil
            go_simp
            (refine (HSt.out _).mono ?_; rintro e v1 ⟨rfl, hb1⟩; have hw2 := Lib.hid (hww.out.dr.call hb1); obtain ⟨p1, q1, r1⟩ := hw2.out.2.1.1; obtain ⟨ad', hae, -, hc1⟩ := ints_cell hw2.out.2.2 HU.out; cases hae)
            go_wp2_with fail
            refine hK6.out _ _ ?_ (fun hHeld1 => ?_)
            · (try dsimp only); go_keep
            clear hK6 K6 hHeld0
            try simp only [Act.put, List.setIfInBounds_toArray, List.set_cons_zero, List.set_cons_succ]
            refine wpAnyH_take (i := 7) (oi := { dst := some 1, op := Go.Op.assign (Go.Operand.tmp 30), type := 3, pos := "l06_way.go:32", after := #[{ on := 6, ground := Go.Ground.data }, { on := 6, ground := Go.Ground.chain }, { on := 0, ground := Go.Ground.phase }, { on := 1, ground := Go.Ground.phase }, { on := 2, ground := Go.Ground.phase }, { on := 3, ground := Go.Ground.phase }, { on := 4, ground := Go.Ground.phase }, { on := 5, ground := Go.Ground.phase }, { on := 6, ground := Go.Ground.phase }], guard := none }) (v := ?_) rfl (by kernel_rfl) (by kernel_rfl) (by kernel_rfl) (fun _ _ _ h => h) (Or.inl ⟨by rfl, ?_⟩) (by assumption) ?_
            rotate_left
            · (intro w hSw; (try dsimp only at hSw); go_simp; try with_reducible rfl)
            try simp only [Act.put, List.setIfInBounds_toArray, List.set_cons_zero, List.set_cons_succ]
            refine wpAnyH_done (by kernel_rfl) ?_ _
            go_wp2_with fail
            go_roundw
            case rel => exact ⟨k + 1, by omega, by go_num, by rw [HNx.out], by rw [HNx.out]; exact hs0, hw2.out⟩
            case measure => simp [intOf]; omega
        · obtain rfl : k = n := by omega
          have e : l.take k = l := List.take_of_length_le (by have := Hn.out; omega)
          rw [e] at hp ⊢
          have HE := Lib.hid (HT.out hp)
          clear HT HF HNo e hp
          generalize wkZ x y z l a = v at *
          go_wp2_with fail
          go_ret2
          exact HE.out _ hww.out.1
    · have hd4 : decide ((400 : Int) < (n : Int)) = true := by simp; omega
      have HE := Lib.hid (HNo.out (by unfold wwB; rw [decide_eq_false (show ¬ l.length ≤ 400 by omega)]; simp))
      clear hi hn hh h400 HNo
      go_enter Try.func12, Try.ntmps12
      go_wp2_with fail
      have hww0 := Lib.hid (HW.out 30)
      refine (HH.out _).mono ?_
      rintro e w1 ⟨rfl, hb⟩
      have hww1 := Lib.hid (hww0.out.call hb)
      clear hb hww0 HW
      go_wp2_with fail
      go_ret2
      exact HE.out _ hww1.out.1
  · have hh' : hasB x y z a = false := by simpa using hh
    rw [hh'] at HH
    have HE := Lib.hid (HNo.out (by unfold wwB; rw [hh']; rfl))
    clear hi hn hh hh' HNo
    go_enter Try.func12, Try.ntmps12
    go_wp2_with fail
    have hww0 := Lib.hid (HW.out 30)
    refine (HH.out _).mono ?_
    rintro e w1 ⟨rfl, hb⟩
    have hww1 := Lib.hid (hww0.out.call hb)
    clear hb hww0 HW
    go_wp2_with fail
    go_ret2
    exact HE.out _ hww1.out.1

set_option maxRecDepth 100000 in
theorem reverseWay_yes (A : Option Addr) (n c : Nat) (l : List Int) (W : World) (hn : l.length = n) (hm : n ≤ 1048576) (hi : IntsIn W W.heap.size A l) (hw : wayB l = true) :
    Calls Try.prog 15 #[.slice A n c] W (Ints (rwL l) W) := by
  obtain ⟨i0, hi0, hz0, hz1, hz2⟩ := info_parts info_int
  have HK := @Lib.hid _ (fun w' v n base => @ints_mk (rwL l) W w' v n base)
  have hrw : Hid (rvL (l.drop 0) = rwL l) := by unfold rwL; rw [if_pos hw]; rfl
  have HWy := Lib.hid (fun c X h => way_any A n c l X hn hm h)
  rw [hw] at HWy
  have HO := Lib.hid (@ol_new W W (Below.refl _ _) (Nat.le_refl _))
  have HY := Lib.hid (IntsIn.below hi (below_box W (.cells #[] 3)))
  have Hn := Lib.hid hn
  have HMem := Lib.hid (way_mem.1 hw)
  have hw1 : IntKind.i64.wrap ((n : Int) - 1) = (n : Int) - 1 := IntWalk.i64_in _ (by omega)
  clear hi hn hw
  go_enter Try.func15, Try.ntmps15
  go_wp2_with fail
  go_loopw [3, 4] (fun u3 u4 wr => ∃ (k : Nat) (j : Int), k ≤ n ∧ j = (k : Int) - 1 ∧ u4 = .int .i64 j ∧ OL W W.heap.size (rvL (l.drop k)) u3 wr ∧ IntsIn wr W.heap.size A l) (fun _ u4 _ => (intOf u4 + 1).toNat)
  case atStart => exact ⟨n, _, Nat.le_refl _, rfl, rfl, by rw [show l.drop n = [] from List.drop_eq_nil_of_le (by have := Hn.out; omega)]; exact HO.out, HY.out⟩
  case round =>
    clear HO HY
    obtain ⟨k, j, hk, hj, rfl, hol0, hy0⟩ := hrel
    have hol := Lib.hid hol0
    have hy := Lib.hid hy0
    have hsz := hol0.2.2.1
    obtain ⟨A3, c3, rfl⟩ := hol0.form
    clear hol0 hy0
    by_cases hj0 : 0 ≤ j
    · obtain ⟨i, rfl⟩ := Int.eq_ofNat_of_zero_le hj0
      obtain rfl : k = i + 1 := by omega
      obtain ⟨u, hu, hmem⟩ : ∃ u, l[i]? = some u ∧ u ∈ l := by
        have hkl : i < l.length := by have := Hn.out; omega
        exact ⟨l[i], List.getElem?_eq_getElem hkl, List.getElem_mem hkl⟩
      have hd := HMem.out u hmem
      have hi1 : (i : Int) < (n : Int) := by omega
      obtain ⟨ad, rfl, hab, hcell⟩ := ints_cell hy.out hu
      have HSt := Lib.hid (rv_step hu)
      have hll : (rvL (l.drop (i + 1))).length ≤ 1048576 := by rw [rv_len, List.length_drop]; have := Hn.out; omega
      have HWc := Lib.hid (HWy.out c wr (hy.out.more hsz))
      have q1 : IntKind.i64.wrap (u + 2) = u + 2 := IntWalk.i64_in _ (by omega)
      have q2 : (u + 2).tmod 4 = (u + 2) % 4 := by rw [IntWalk.rem_in _ _ (by omega)]
      have q3 : IntKind.i64.wrap ((i : Int) - 1) = (i : Int) - 1 := IntWalk.i64_in _ (by omega)
      clear hu hmem HWy hj hj0
      generalize hL : rvL (l.drop (i + 1)) = L at *
      generalize hR : (u + 2) % 4 = r at *
      go_wp2_with fail
      refine HWc.out.mono ?_
      rintro e w' ⟨rfl, rfl⟩
      go_wp2_with (at_builtin; refine wpList_append_lies _ rfl (.tmp 17) (.tmp 24) 26 rfl (W.heap.size) 3 i0 _ 1 8 Try.underlying26 hi0 hz0 hz1 hz2 rfl (by omega) _ (L.length) _ rfl (hol.out.2.2.2.alloc _) ⟨wr.heap.size, 0, none⟩ 1 1 (icells [r]) rfl rfl (news_eqI rfl (heap_alloc_new wr _)) (oneCellI _) (by omega) (by unfold maxLen; omega) (by omega) (by simp; omega) (wr.heap.size + 1) (by simp) ?_; intro gg cap w3 hown' hgrow hat hlt2; clear hlt2; have HAt := Lib.hid hat; clear hat)
      have hn2 := hol.out.app hown' hgrow
      go_roundw
      case rel => exact ⟨i, _, by omega, rfl, rfl, by rw [HSt.out]; exact hn2.1, IntsIn.low hy.out (Nat.le_refl _) hn2.2⟩
      case measure => simp [intOf]
    · obtain rfl : k = 0 := by omega
      obtain rfl : j = -1 := by omega
      clear hj hj0 hw1
      go_wp2_with fail
      go_ret
      exact HK.out _ _ _ _ (by rw [← hrw.out]) (by rw [← hrw.out]; exact hol.out.2.2.2) (Nat.le_refl _) hol.out.1

set_option maxRecDepth 100000 in
theorem reverseWay_no (A : Option Addr) (n c : Nat) (l : List Int) (W : World) (hn : l.length = n) (hm : n ≤ 1048576) (hi : IntsIn W W.heap.size A l) (hw : wayB l = false) :
    Calls Try.prog 15 #[.slice A n c] W (Ints (rwL l) W) := by
  have HK := @Lib.hid _ (fun w' v n base => @ints_mk (rwL l) W w' v n base)
  have hrw : Hid (rwL l = []) := by unfold rwL; rw [hw]; rfl
  have HWy := Lib.hid (fun c X h => way_any A n c l X hn hm h)
  rw [hw] at HWy
  have HO := Lib.hid (@ol_new W W (Below.refl _ _) (Nat.le_refl _))
  have HY := Lib.hid (IntsIn.below hi (below_box W (.cells #[] 3)))
  have hw1 : IntKind.i64.wrap ((n : Int) - 1) = (n : Int) - 1 := IntWalk.i64_in _ (by omega)
  have hn0 : 0 ≤ (n : Int) - 1 := by
    have : n ≠ 0 := fun h => by
      rw [h] at hn
      rw [List.eq_nil_of_length_eq_zero hn] at hw; cases hw
    omega
  clear hi hn hw
  go_enter Try.func15, Try.ntmps15
  go_wp2_with fail
  go_loopw [3, 4] (fun u3 u4 wr => u4 = .int .i64 ((n : Int) - 1) ∧ OL W W.heap.size [] u3 wr ∧ IntsIn wr W.heap.size A l) (fun _ u4 _ => (intOf u4 + 1).toNat)
  case atStart => exact ⟨rfl, HO.out, HY.out⟩
  case round =>
    clear HO HY
    obtain ⟨rfl, hol0, hy0⟩ := hrel
    have hol := Lib.hid hol0
    have hy := Lib.hid hy0
    have hsz := hol0.2.2.1
    have HWc := Lib.hid (HWy.out c wr (hy0.more hsz))
    clear hol0 hy0 HWy
    have hdd : decide (0 ≤ (n : Int) - 1) = true := decide_eq_true hn0
    generalize (n : Int) - 1 = j at *
    go_wp2_with fail
    refine HWc.out.mono ?_
    rintro e w' ⟨rfl, rfl⟩
    go_wp2_with fail
    go_ret
    exact HK.out _ _ _ _ (by rw [hrw.out]) (by rw [hrw.out]; exact hol.out.2.2.2) (Nat.le_refl _) hol.out.1

theorem reverseWay_any (A : Option Addr) (n c : Nat) (l : List Int) (W : World) (hn : l.length = n) (hm : n ≤ 1048576) (hi : IntsIn W W.heap.size A l) :
    Calls Try.prog 15 #[.slice A n c] W (Ints (rwL l) W) := by
  cases hw : wayB l with
  | true => exact reverseWay_yes A n c l W hn hm hi hw
  | false => exact reverseWay_no A n c l W hn hm hi hw

set_option maxRecDepth 100000 in
theorem cellsOn_any (x y z a : Int) (A : Option Addr) (n c : Nat) (l : List Int) (W : World) (hn : l.length = n) (hm : n ≤ 1048576) (hi : IntsIn W W.heap.size A l) :
    Calls Try.prog 49 #[.agg #[.int .i64 x, .int .i64 y, .int .i64 z], .int .i64 a, .slice A n c] W (Ints (coL x y z a l) W) := by
  obtain ⟨i0, hi0, hz0, hz1, hz2⟩ := info_parts info_int
  have HK := @Lib.hid _ (fun w' v n base => @ints_mk (coL x y z a l) W w' v n base)
  have HS := Lib.hid (fun c d X => step_any x y z c d X)
  have HWk := Lib.hid (fun X h => walkWay_any x y z a A n c l X hn hm h)
  have HW := Lib.hid (fun T o => (@ww_new W x y z A l hi T).call (below_box _ o))
  have HO := Lib.hid (fun T => @ol_new W (W.alloc (.cells #[.int .i64 x, .int .i64 y, .int .i64 z] T)) (below_box _ _) (by simp))
  have Hn := Lib.hid hn
  cases hh : wwB x y z a l with
  | false =>
    rw [hh] at HWk
    have hco : Hid (coL x y z a l = []) := by unfold coL; rw [hh]; rfl
    clear hi hn hh
    generalize wwZ x y z a l = v at *
    go_enter Try.func49, Try.ntmps49
    go_wp2_with fail
    have hww0 := Lib.hid (HW.out 30 (.cells #[] 3))
    have hol0 := Lib.hid (HO.out 30)
    refine (HWk.out _ (hww0.out.2.2.more hww0.out.1.size)).mono ?_
    rintro e w1 ⟨rfl, hb⟩
    have hol1 := Lib.hid (hol0.out.call hb)
    have hbs : (W.alloc (.cells #[.int .i64 x, .int .i64 y, .int .i64 z] 30)).heap.size = W.heap.size + 1 := by simp
    rw [hbs] at hol1
    clear hb hww0 hol0 HW HO
    go_wp2_with fail
    go_ret
    exact HK.out _ _ _ _ (by rw [hco.out]) (by rw [hco.out]; exact hol1.out.2.2.2) hol1.out.2.1 hol1.out.1
  | true =>
    have hww' := hh
    unfold wwB at hww'
    simp only [Bool.and_eq_true, decide_eq_true_iff] at hww'
    obtain ⟨hh1, h400, hend⟩ := hww'
    have ha0 : 0 ≤ a := (of_decide_eq_true hh1).2.1
    have hco : Hid (coL x y z a l = ceL x y z l a) := Lib.hid (by unfold coL; rw [if_pos hh])
    rw [hh] at HWk
    have Hend := Lib.hid hend
    clear hi hh hh1
    generalize wwZ x y z a l = v at *
    have hn4 : n ≤ 400 := by omega
    clear hn h400 hend
    go_enter Try.func49, Try.ntmps49
    go_wp2_with fail
    have hww0 := Lib.hid (HW.out 30 (.cells #[] 3))
    have hol0 := Lib.hid (HO.out 30)
    refine (HWk.out _ (hww0.out.2.2.more hww0.out.1.size)).mono ?_
    rintro e w1 ⟨rfl, hb⟩
    have hww1 := Lib.hid (hww0.out.call hb)
    have hol1 := Lib.hid (hol0.out.call hb)
    have hsz1 := hol1.out.2.2.1
    have hbs : (W.alloc (.cells #[.int .i64 x, .int .i64 y, .int .i64 z] 30)).heap.size = W.heap.size + 1 := by simp
    rw [hbs] at hsz1 hol1
    clear hb hww0 hol0 HW HO hbs HWk
    go_wp2_with (at_builtin; refine wpList_append_lies _ rfl (.tmp 22) (.tmp 24) 26 rfl (W.heap.size + 1) 3 i0 _ 1 8 Try.underlying26 hi0 hz0 hz1 hz2 rfl (by omega) _ (0) _ rfl (hol1.out.2.2.2.alloc _) ⟨w1.heap.size, 0, none⟩ 1 1 (icells [a]) rfl rfl (news_eqI rfl (heap_alloc_new w1 _)) (oneCellI _) (by omega) (by unfold maxLen; omega) (by omega) (by simp; omega) (w1.heap.size + 1) (by simp) ?_; intro gg cap w3 hown' hgrow hat hlt2; clear hlt2; have HAt := Lib.hid hat; clear hat)
    have hn2 := hol1.out.app hown' hgrow
    have hol2 := Lib.hid hn2.1
    have hww2 := Lib.hid (hww1.out.low (by omega) hn2.2 hn2.1.1)
    clear hn2 hown' hgrow HAt hol1 hww1 hsz1
    go_wp2_with fail
    go_loopw [1, 7, 10] (fun u1 u7 u10 wr => ∃ k : Nat, k ≤ n ∧ u10 = .int .i64 k ∧ u1 = .int .i64 (wkZ x y z (l.take k) a) ∧ OL W (W.heap.size + 1) (ceL x y z (l.take k) a) u7 wr ∧ WW W x y z A l wr) (fun _ _ u10 _ => n - (intOf u10).toNat)
    case atStart => exact ⟨0, Nat.zero_le _, rfl, rfl, hol2.out, hww2.out⟩
    case round =>
      clear hol2 hww2
      obtain ⟨k, hk, rfl, rfl, hol0, hww0⟩ := hrel
      have hol := Lib.hid hol0
      have hww := Lib.hid hww0
      obtain ⟨A7, c7, rfl⟩ := hol0.form
      have hll : (ceL x y z (l.take k) a).length ≤ 500 := by rw [ceL_len, List.length_take]; omega
      clear hol0 hww0
      by_cases hkn : k < n
      · obtain ⟨u, hu⟩ : ∃ u, l[k]? = some u := by
          have hkl : k < l.length := by have := Hn.out; omega
          exact ⟨l[k], List.getElem?_eq_getElem hkl⟩
        obtain ⟨ad, rfl, hab, hcell⟩ := ints_cell hww.out.2.2 hu
        obtain ⟨m0, m1, m2⟩ := hww.out.2.1.1
        have hk0 : (0 : Int) ≤ (k : Int) := Int.natCast_nonneg _
        have hk1 : (k : Int) < (n : Int) := by omega
        have hp := wkZ_pre k ha0 Hend.out
        have HNx := Lib.hid (wkZ_next ha0 hu hp)
        have HCx := Lib.hid (ceL_next ha0 hu hp)
        have HU := Lib.hid hu
        have HSt := Lib.hid (fun X => HS.out (wkZ x y z (l.take k) a) u X)
        rw [← HNx.out] at HSt
        clear hu hp
        generalize wkZ x y z (l.take k) a = cc at *
        generalize hS : wkZ x y z (l.take (k + 1)) a = s at *
        generalize hL : ceL x y z (l.take k) a = L at *
        go_wp2_with fail
        try simp only [List.cons_append, List.nil_append, List.append_eq]
        refine wp_region_held_drew (S := (fun w' => w'.cell? (ad.add k) = some (.int .i64 u) ∧ w'.cell? ⟨W.heap.size, 0, none⟩ = some (.int .i64 x) ∧ w'.cell? ⟨W.heap.size, 1, none⟩ = some (.int .i64 y) ∧ w'.cell? ⟨W.heap.size, 2, none⟩ = some (.int .i64 z))) (by kernel_rfl) ?_ (fun hHeld0 => ?_)
        · (try dsimp only); go_keep
        refine wpAnyH_take (i := 0) (oi := { dst := some 32, op := Go.Op.load 30 (Go.Operand.tmp 3), type := 30, pos := "l06_way.go:65", after := #[], guard := none }) (v := ?_) rfl (by kernel_rfl) (by kernel_rfl) (by kernel_rfl) (fun _ _ _ h => h) (Or.inl ⟨by rfl, ?_⟩) (by assumption) ?_
        rotate_left
        · (intro w hSw; (try dsimp only at hSw); go_simp; try with_reducible rfl)
        try simp only [Act.put, List.setIfInBounds_toArray, List.set_cons_zero, List.set_cons_succ]
        refine wpAnyH_take (i := 1) (oi := { dst := some 33, op := Go.Op.move (Go.Operand.tmp 1), type := 3, pos := "l06_way.go:65", after := #[], guard := none }) (v := ?_) rfl (by kernel_rfl) (by kernel_rfl) (by kernel_rfl) (fun _ _ _ h => h) (Or.inl ⟨by rfl, ?_⟩) (by assumption) ?_
        rotate_left
        · (intro w hSw; (try dsimp only at hSw); go_simp; try with_reducible rfl)
        try simp only [Act.put, List.setIfInBounds_toArray, List.set_cons_zero, List.set_cons_succ]
        refine wpAnyH_take (i := 2) (oi := { dst := some 34, op := Go.Op.move (Go.Operand.tmp 2), type := 26, pos := "l06_way.go:65", after := #[], guard := none }) (v := ?_) rfl (by kernel_rfl) (by kernel_rfl) (by kernel_rfl) (fun _ _ _ h => h) (Or.inl ⟨by rfl, ?_⟩) (by assumption) ?_
        rotate_left
        · (intro w hSw; (try dsimp only at hSw); go_simp; try with_reducible rfl)
        try simp only [Act.put, List.setIfInBounds_toArray, List.set_cons_zero, List.set_cons_succ]
        refine wpAnyH_take (i := 3) (oi := { dst := some 35, op := Go.Op.move (Go.Operand.tmp 10), type := 3, pos := "l06_way.go:65", after := #[], guard := none }) (v := ?_) rfl (by kernel_rfl) (by kernel_rfl) (by kernel_rfl) (fun _ _ _ h => h) (Or.inl ⟨by rfl, ?_⟩) (by assumption) ?_
        rotate_left
        · (intro w hSw; (try dsimp only at hSw); go_simp; try with_reducible rfl)
        try simp only [Act.put, List.setIfInBounds_toArray, List.set_cons_zero, List.set_cons_succ]
        refine wpAnyH_take (i := 4) (oi := { dst := some 36, op := Go.Op.indexAddr 26 (Go.Operand.tmp 34) (Go.Operand.tmp 35), type := 0, pos := "l06_way.go:65", after := #[{ on := 2, ground := Go.Ground.data }, { on := 3, ground := Go.Ground.data }], guard := none }) (v := ?_) rfl (by kernel_rfl) (by kernel_rfl) (by kernel_rfl) (fun _ _ _ h => h) (Or.inl ⟨by rfl, ?_⟩) (by assumption) ?_
        rotate_left
        · (intro w hSw; (try dsimp only at hSw); go_simp; try with_reducible rfl)
        try simp only [Act.put, List.setIfInBounds_toArray, List.set_cons_zero, List.set_cons_succ]
        refine wpAnyH_take (i := 5) (oi := { dst := some 37, op := Go.Op.load 3 (Go.Operand.tmp 36), type := 3, pos := "l06_way.go:65", after := #[{ on := 4, ground := Go.Ground.data }], guard := none }) (v := ?_) rfl (by kernel_rfl) (by kernel_rfl) (by kernel_rfl) (fun _ _ _ h => h) (Or.inl ⟨by rfl, ?_⟩) (by assumption) ?_
        rotate_left
        · (intro w hSw; (try dsimp only at hSw); go_simp; try with_reducible rfl)
        try simp only [Act.put, List.setIfInBounds_toArray, List.set_cons_zero, List.set_cons_succ]
        refine wpAnyH_ready (rs := [6]) (by kernel_rfl) (by simp) ?_
        refine AllReadyH.cons (o := { dst := some 38, op := Go.Op.call { callee := Go.Callee.value (Go.Operand.func 40), args := #[Go.Operand.tmp 32, Go.Operand.tmp 33, Go.Operand.tmp 37], argTypes := #[30, 3, 3] }, type := 3, pos := "l06_way.go:65", after := #[{ on := 0, ground := Go.Ground.data }, { on := 1, ground := Go.Ground.data }, { on := 5, ground := Go.Ground.data }], guard := none }) rfl (fun K6 hK6 => ?_) AllReadyH.nil
        go_simp
        (refine (HSt.out _).mono ?_; rintro e v1 ⟨rfl, hb1⟩; have hw2 := Lib.hid (hww.out.dr.call hb1); have ho2 := Lib.hid (hol.out.dr.call hb1); obtain ⟨p1, q1, r1⟩ := hw2.out.2.1.1; obtain ⟨ad', hae, -, hc1⟩ := ints_cell hw2.out.2.2 HU.out; cases hae)
        go_wp2_with fail
        refine hK6.out _ _ ?_ (fun hHeld1 => ?_)
        · (try dsimp only); go_keep
        clear hK6 K6 hHeld0
        try simp only [Act.put, List.setIfInBounds_toArray, List.set_cons_zero, List.set_cons_succ]
        refine wpAnyH_take (i := 7) (oi := { dst := some 1, op := Go.Op.assign (Go.Operand.tmp 38), type := 3, pos := "l06_way.go:65", after := #[{ on := 6, ground := Go.Ground.data }, { on := 6, ground := Go.Ground.chain }, { on := 0, ground := Go.Ground.phase }, { on := 1, ground := Go.Ground.phase }, { on := 2, ground := Go.Ground.phase }, { on := 3, ground := Go.Ground.phase }, { on := 4, ground := Go.Ground.phase }, { on := 5, ground := Go.Ground.phase }, { on := 6, ground := Go.Ground.phase }], guard := none }) (v := ?_) rfl (by kernel_rfl) (by kernel_rfl) (by kernel_rfl) (fun _ _ _ h => h) (Or.inl ⟨by rfl, ?_⟩) (by assumption) ?_
        rotate_left
        · (intro w hSw; (try dsimp only at hSw); go_simp; try with_reducible rfl)
        try simp only [Act.put, List.setIfInBounds_toArray, List.set_cons_zero, List.set_cons_succ]
        refine wpAnyH_done (by kernel_rfl) ?_ _
        have hsz := ho2.out.2.2.1
        clear m0 m1 m2 hcell
        go_wp2_with (at_builtin; refine wpList_append_lies _ rfl (.tmp 39) (.tmp 41) 26 rfl (W.heap.size + 1) 3 i0 _ 1 8 Try.underlying26 hi0 hz0 hz1 hz2 rfl (by omega) _ (L.length) _ rfl (ho2.out.2.2.2.alloc _) ⟨v1.heap.size, 0, none⟩ 1 1 (icells [s]) rfl rfl (news_eqI rfl (heap_alloc_new v1 _)) (oneCellI _) (by omega) (by unfold maxLen; omega) (by omega) (by simp; omega) (v1.heap.size + 1) (by simp) ?_; intro gg cap w3 hown' hgrow hat hlt2; clear hlt2; have HAt := Lib.hid hat; clear hat)
        have hn2 := ho2.out.app hown' hgrow
        have HN1 := Lib.hid hn2.1
        have HN2 := Lib.hid (hw2.out.low (by omega) hn2.2 hn2.1.1)
        clear hn2 hown' hgrow HAt
        go_roundw
        case rel => exact ⟨k + 1, by omega, by go_num, by rw [hS], by rw [HCx.out]; exact HN1.out, HN2.out⟩
        case measure => simp [intOf]; omega
      · obtain rfl : k = n := by omega
        have e : ceL x y z (l.take k) a = coL x y z a l := by rw [hco.out, List.take_of_length_le (by have := Hn.out; omega)]
        rw [e] at hol ⊢
        clear e hll
        go_wp2_with fail
        go_ret
        exact HK.out _ _ _ _ rfl hol.out.2.2.2 hol.out.2.1 hol.out.1
end Go.Proofs.Ytgocbnnhhpmndaa.wayM

/- The contracts of the model's texts of ways, and of its shortest way. -/
namespace Go.Proofs.Ytgocbnnhhpmndaa.wayM
open Go.ChangeShapes Go.WideShapes Go.ChangeAt Go.RowKit
open draw gridP gridC gridE bitP mazeP mazeC mazeM mazeS intsP reachP reachM reachN reachD intA listK wayP
set_option linter.unusedVariables false

theorem tx_next {l : List Int} {k : Nat} {u : Int} (hu : l[k]? = some u) : (⟨(txL (l.take (k + 1))).toArray⟩ : ByteArray) = ⟨(txL (l.take k)).toArray⟩ ++ ⟨#[ltr u]⟩ := by
  rw [take_one hu]
  apply ByteArray.ext
  simp [txL]

/-- What is known of a letter after some directions. -/
def fdZ (c : UInt8) (d : Nat) : Int := if 0 ≤ unl c ∧ unl c < d then unl c else -1
theorem fd_end (c : UInt8) : fdZ c 4 = unl c := by
  have := unl_ge c
  unfold fdZ; split <;> omega
theorem fd_yes {c : UInt8} {d : Nat} (h : unl c = d) : fdZ c (d + 1) = d := by unfold fdZ; rw [if_pos (by omega)]; exact h
theorem fd_no {c : UInt8} {d : Nat} (h : unl c ≠ d) : fdZ c (d + 1) = fdZ c d := by
  unfold fdZ
  by_cases h' : 0 ≤ unl c ∧ unl c < d
  · rw [if_pos h', if_pos (by omega)]
  · rw [if_neg h', if_neg (by omega)]
theorem unl_is (c : UInt8) (v : UInt8) (d : Int) (hv : unl v = d) (h4 : 0 ≤ d) (hi : ∀ c', unl c' = d → c' = v) : ((v.toNat : Int) == (c.toNat : Int)) = decide (unl c = d) := by
  by_cases h : c = v
  · subst h; rw [decide_eq_true hv]; simp
  · rw [decide_eq_false (fun e => h (hi c e))]
    have : v.toNat ≠ c.toNat := fun e => h (UInt8.toNat_inj.1 e.symm)
    simp; omega
theorem unl0 (c : UInt8) : ((78 : Int) == (c.toNat : Int)) = decide (unl c = 0) := unl_is c 78 0 (by decide) (by decide) fun c' h => by unfold unl at h; (repeat' split at h) <;> first | assumption | omega
theorem unl1 (c : UInt8) : ((69 : Int) == (c.toNat : Int)) = decide (unl c = 1) := unl_is c 69 1 (by decide) (by decide) fun c' h => by unfold unl at h; (repeat' split at h) <;> first | assumption | omega
theorem unl2 (c : UInt8) : ((83 : Int) == (c.toNat : Int)) = decide (unl c = 2) := unl_is c 83 2 (by decide) (by decide) fun c' h => by unfold unl at h; (repeat' split at h) <;> first | assumption | omega
theorem unl3 (c : UInt8) : ((87 : Int) == (c.toNat : Int)) = decide (unl c = 3) := unl_is c 87 3 (by decide) (by decide) fun c' h => by unfold unl at h; (repeat' split at h) <;> first | assumption | omega

end Go.Proofs.Ytgocbnnhhpmndaa.wayM
