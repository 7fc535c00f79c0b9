/- The contracts of the model's functions on mazes from arrows, but for the walks. -/
import Derived.Test.YtcoikcnijaniaaaPopO
import Derived.Test.YtcoikcnijaniaaaModM
namespace Go.Proofs.Ytcoikcnijaniaaa.popM
open Go.ChangeShapes Go.WideShapes Go.ChangeAt Go.RowKit
open draw gridP gridC gridE bitP mazeP mazeC mazeM mazeR mazeS intsP boolP reachP reachM reachN reachD intA intK listK rowsP wayP ersP ersO popP popO
set_option linter.unusedVariables false

/-! ### plain -/
theorem ao_no {x y : Int} {ls : List (List Int)} (h : ¬ Ao x y ls) : aoB x y ls = false := by
  rw [← Bool.not_eq_true, ao_iff]; exact h
/-- The rows below k are in order. -/
def Rk (x y : Int) (ls : List (List Int)) (k : Nat) : Prop := ∀ j : Nat, j < k → (rwA ls j).length ≤ 60 ∧ ∀ d ∈ rwA ls j, nbZ x y j d ≠ -1
theorem rk_next {x y : Int} {ls : List (List Int)} {k : Nat} (h : Rk x y ls k) (h1 : (rwA ls k).length ≤ 60) (h2 : ∀ d ∈ rwA ls k, nbZ x y k d ≠ -1) : Rk x y ls (k + 1) := fun j hj => by
  rcases Nat.lt_or_ge j k with h' | h'
  · exact h j h'
  · obtain rfl : j = k := by omega
    exact ⟨h1, h2⟩
theorem take_next {P : Int → Prop} {l : List Int} {i : Nat} {d : Int} (hd : l[i]? = some d) (h : ∀ z ∈ l.take i, P z) (h1 : P d) : ∀ z ∈ l.take (i + 1), P z := fun z hz => by
  rw [List.take_add_one, hd] at hz
  rcases List.mem_append.1 hz with h' | h'
  · exact h z h'
  · have : z = d := by simpa using h'
    rw [this]; exact h1
theorem take_full {P : Int → Prop} {l : List Int} {i : Nat} (hi : l.length ≤ i) (h : ∀ z ∈ l.take i, P z) : ∀ z ∈ l, P z := by rwa [List.take_of_length_le hi] at h
theorem addr_zero (a : Addr) : a.add 0 = a := by
  obtain ⟨b, o, s⟩ := a
  cases s <;> simp [Addr.add]
theorem nb_lt {x y k d : Int} (h : nbZ x y k d ≠ -1) : ¬ nbZ x y k d < 0 := by have := nb_ge x y k d; omega

set_option maxRecDepth 100000 in
set_option maxHeartbeats 2000000 in
theorem arrowsOk_any (x y : Int) (A : Option Addr) (n c : Nat) (ls : List (List Int)) (W : World) (hn : ls.length = n) (hm : n ≤ 1048576) (hl : ∀ l ∈ ls, l.length ≤ 1048576) (hi : MxIn W W.heap.size A ls) :
    Calls Try.prog 32 #[.agg #[.int .i64 x, .int .i64 y], .slice A n c] W (Bl (aoB x y ls) W) := by
  have HI := Lib.hid (fun X (hb : Below W.heap.size W X) => hi.below hb)
  have HB := Lib.hid (fun T => below_box W (.cells #[.int .i64 x, .int .i64 y] T))
  have HX := Lib.hid (fun T => box_new x y W T)
  have HK := @Lib.hid _ (fun w' v e b => @bl_mk v (aoB x y ls) W w' e b)
  have HNo := Lib.hid (fun h => @ao_no x y ls h)
  by_cases hk : OkZ x y
  · have HG : Hid (∀ X, Calls Try.prog 40 #[.agg #[.int .i64 x, .int .i64 y]] X (Bl true X)) := fun X => gridS.gridOk_yes x y X hk.1 hk.2.1 hk.2.2.1 hk.2.2.2
    have HC : Hid (∀ X, Calls Try.prog 11 #[.agg #[.int .i64 x, .int .i64 y]] X (Nm (x * y) X)) := fun X => gridS.countCells_yes x y X hk.1 hk.2.1 hk.2.2.1 hk.2.2.2
    have hN : x * y = (cN x y : Int) ∧ 1 ≤ cN x y ∧ cN x y ≤ 16 := by
      have := (mul_bd x y hk.1 hk.2.1 hk.2.2.1 hk.2.2.2).1
      unfold cN; omega
    rw [hN.1] at HC
    have HNb := Lib.hid (fun k d X => gridS.neighbor_any x y k d X)
    have Hn := Lib.hid hn
    have HLn := Lib.hid (fun k (hk : k < n) => (⟨by rw [hn]; exact hk, hl _ (List.mem_of_getElem? (ao_rows' (ls := ls) (show k < ls.length by omega))), ao_rows' (ls := ls) (show k < ls.length by omega)⟩ : k < ls.length ∧ (rwA ls k).length ≤ 1048576 ∧ ls[k]? = some (rwA ls k)))
    have HYes : Hid (n = cN x y → (rwA ls 0).length = 0 → Rk x y ls n → true = aoB x y ls) := Lib.hid fun h1 h2 h3 => (ao_iff.2 ⟨hk, by omega, h2, by rw [hn]; exact h3⟩).symm
    have HBad : Hid (∀ k : Nat, k < n → ¬ ((rwA ls k).length ≤ 60 ∧ ∀ d ∈ rwA ls k, nbZ x y k d ≠ -1) → false = aoB x y ls) := Lib.hid fun k h1 h2 => (HNo.out fun h => h2 (h.2.2.2 k (by omega))).symm
    have HLen : Hid (n ≠ cN x y → false = aoB x y ls) := Lib.hid fun h => (HNo.out fun h' => h (by have := h'.2.1; omega)).symm
    have HZr : Hid ((rwA ls 0).length ≠ 0 → false = aoB x y ls) := Lib.hid fun h => (HNo.out fun h' => h h'.2.2.1).symm
    clear hi hl hn hk HNo
    generalize hNN : cN x y = N at *
    obtain ⟨-, hN1, hN16⟩ := hN
    go_enter Try.func32, Try.ntmps32
    go_wp2_with fail
    refine (HG.out _).mono ?_
    rintro e w1 ⟨rfl, hb⟩
    have hb1 := Lib.hid (below_call (HB.out _) hb)
    have hx1 := Lib.hid ((HX.out _).call hb)
    clear hb HG HB HX
    obtain ⟨c0, c1⟩ := hx1.out.1
    go_wp2_with fail
    refine (HC.out _).mono ?_
    rintro e w2 ⟨rfl, hb⟩
    have hb2 := Lib.hid (below_call hb1.out hb)
    have hx2 := Lib.hid (hx1.out.call hb)
    clear hb hb1 hx1 HC c0 c1
    by_cases hnN : n = N
    · subst hnN
      have hne : ((n : Int) != (n : Int)) = false := by simp
      obtain ⟨q1, q2, q3⟩ := HLn.out 0 (by omega)
      obtain ⟨ad, rfl, hab, A1, c1, e1, r1⟩ := mx_cell (HI.out _ hb2.out) q3
      simp only [Int.natCast_zero, addr_zero] at e1
      by_cases hz : (rwA ls 0).length = 0
      · have Hz := Lib.hid hz
        rw [hz] at e1
        clear hz q2 q3 r1
        go_wp2_with fail
        clear e1 hne
        go_loopw [5] (fun u5 wr => ∃ k : Nat, k ≤ n ∧ u5 = .int .i64 k ∧ Rk x y ls k ∧ Below W.heap.size W wr ∧ Box W.heap.size x y wr) (fun u5 _ => n - (intOf u5).toNat)
        case atStart => exact ⟨0, Nat.zero_le _, rfl, fun j hj => absurd hj (by omega), hb2.out, hx2.out⟩
        case round =>
          clear hb2 hx2
          obtain ⟨k, hkn, rfl, hrk, hb0, hx0⟩ := hrel
          have hRk := Lib.hid hrk
          have hbl := Lib.hid hb0
          have hbx := Lib.hid hx0
          clear hrk hb0 hx0
          have hk0 : (0 : Int) ≤ (k : Int) := Int.natCast_nonneg _
          by_cases hk1 : k < n
          · have hk2 : (k : Int) < (n : Int) := by omega
            obtain ⟨q1, q2, q3⟩ := HLn.out k hk1
            have HQ := Lib.hid q3
            have HBk := Lib.hid (HBad.out k hk1)
            have HNx := Lib.hid (fun h1 h2 => rk_next hRk.out h1 h2)
            have HNbk := Lib.hid (fun d X => HNb.out k d X)
            generalize hrw : rwA ls k = r at *
            clear q1 q3 HLn
            go_wp2_with fail
            go_loopw [6] (fun u6 wq => ∃ i : Nat, i ≤ r.length ∧ u6 = .int .i64 i ∧ (∀ d ∈ r.take i, nbZ x y k d ≠ -1) ∧ (0 < i → r.length ≤ 60) ∧ Below W.heap.size W wq ∧ Box W.heap.size x y wq) (fun u6 _ => r.length - (intOf u6).toNat)
            case atStart => exact ⟨0, Nat.zero_le _, rfl, by simp, fun h => absurd h (by omega), hbl.out, hbx.out⟩
            case round =>
              clear hbl hbx
              obtain ⟨i, hir, rfl, hall, h60, hb0, hx0⟩ := hrel
              have HAll := Lib.hid hall
              have H60 := Lib.hid h60
              have hbl := Lib.hid hb0
              have hbx := Lib.hid hx0
              obtain ⟨ad', had, -, A2, c2, e2, r2⟩ := mx_cell (HI.out _ hb0) HQ.out
              cases had
              clear hall h60 hb0 hx0
              obtain ⟨c0, c1⟩ := hbx.out.1
              have hi0 : (0 : Int) ≤ (i : Int) := Int.natCast_nonneg _
              by_cases hi1 : i < r.length
              · have hi2 : (i : Int) < (r.length : Int) := by omega
                obtain ⟨d, hd⟩ : ∃ d, r[i]? = some d := ⟨r[i], List.getElem?_eq_getElem hi1⟩
                have hmem := List.mem_of_getElem? hd
                obtain ⟨ai, rfl, hai, e3⟩ := ints_cell r2 hd
                have HNd := Lib.hid (fun X => HNbk.out d X)
                by_cases hnv : nbZ x y k d < 0
                · have HE := Lib.hid (HBk.out fun h => absurd (nb_lt (h.2 d hmem)) (by simpa using hnv))
                  have hdn : decide (nbZ x y k d < 0) = true := decide_eq_true hnv
                  clear r2 hd hmem
                  generalize nbZ x y k d = nv at *
                  go_wp2_with fail
                  try simp only [List.cons_append, List.nil_append, List.append_eq]
                  refine wp_region_held_drew (S := (fun w' => w'.cell? (ad.add k) = some (.slice (some ai) r.length c2) ∧ w'.cell? (ai.add i) = some (.int .i64 d) ∧ w'.cell? ⟨W.heap.size, 0, none⟩ = some (.int .i64 x) ∧ w'.cell? ⟨W.heap.size, 1, none⟩ = some (.int .i64 y))) (by kernel_rfl) ?_ (fun hHeld0 => ?_)
                  · (try dsimp only); go_keep
                  refine wpAnyH_take (i := 0) (oi := { dst := some 39, op := Go.Op.load 25 (Go.Operand.tmp 2), type := 25, pos := "l15_stack.go:11", after := #[], guard := none }) (v := ?_) rfl (by kernel_rfl) (by kernel_rfl) (by kernel_rfl) (fun _ _ _ h => h) (Or.inl ⟨by rfl, ?_⟩) (by assumption) ?_
                  rotate_left
                  · (intro w hSw; (try dsimp only at hSw); go_simp; try with_reducible rfl)
                  try simp only [Act.put, List.setIfInBounds_toArray, List.set_cons_zero, List.set_cons_succ]
                  refine wpAnyH_take (i := 1) (oi := { dst := some 40, op := Go.Op.move (Go.Operand.tmp 5), type := 3, pos := "l15_stack.go:11", after := #[], guard := none }) (v := ?_) rfl (by kernel_rfl) (by kernel_rfl) (by kernel_rfl) (fun _ _ _ h => h) (Or.inl ⟨by rfl, ?_⟩) (by assumption) ?_
                  rotate_left
                  · (intro w hSw; (try dsimp only at hSw); go_simp; try with_reducible rfl)
                  try simp only [Act.put, List.setIfInBounds_toArray, List.set_cons_zero, List.set_cons_succ]
                  refine wpAnyH_take (i := 2) (oi := { dst := some 41, op := Go.Op.move (Go.Operand.tmp 1), type := 37, pos := "l15_stack.go:11", after := #[], guard := none }) (v := ?_) rfl (by kernel_rfl) (by kernel_rfl) (by kernel_rfl) (fun _ _ _ h => h) (Or.inl ⟨by rfl, ?_⟩) (by assumption) ?_
                  rotate_left
                  · (intro w hSw; (try dsimp only at hSw); go_simp; try with_reducible rfl)
                  try simp only [Act.put, List.setIfInBounds_toArray, List.set_cons_zero, List.set_cons_succ]
                  refine wpAnyH_take (i := 3) (oi := { dst := some 42, op := Go.Op.move (Go.Operand.tmp 5), type := 3, pos := "l15_stack.go:11", after := #[], guard := none }) (v := ?_) rfl (by kernel_rfl) (by kernel_rfl) (by kernel_rfl) (fun _ _ _ h => h) (Or.inl ⟨by rfl, ?_⟩) (by assumption) ?_
                  rotate_left
                  · (intro w hSw; (try dsimp only at hSw); go_simp; try with_reducible rfl)
                  try simp only [Act.put, List.setIfInBounds_toArray, List.set_cons_zero, List.set_cons_succ]
                  refine wpAnyH_take (i := 4) (oi := { dst := some 43, op := Go.Op.indexAddr 37 (Go.Operand.tmp 41) (Go.Operand.tmp 42), type := 0, pos := "l15_stack.go:11", after := #[{ on := 2, ground := Go.Ground.data }, { on := 3, ground := Go.Ground.data }], guard := none }) (v := ?_) rfl (by kernel_rfl) (by kernel_rfl) (by kernel_rfl) (fun _ _ _ h => h) (Or.inl ⟨by rfl, ?_⟩) (by assumption) ?_
                  rotate_left
                  · (intro w hSw; (try dsimp only at hSw); go_simp; try with_reducible rfl)
                  try simp only [Act.put, List.setIfInBounds_toArray, List.set_cons_zero, List.set_cons_succ]
                  refine wpAnyH_take (i := 5) (oi := { dst := some 44, op := Go.Op.load 32 (Go.Operand.tmp 43), type := 32, pos := "l15_stack.go:11", after := #[{ on := 4, ground := Go.Ground.data }], guard := none }) (v := ?_) rfl (by kernel_rfl) (by kernel_rfl) (by kernel_rfl) (fun _ _ _ h => h) (Or.inl ⟨by rfl, ?_⟩) (by assumption) ?_
                  rotate_left
                  · (intro w hSw; (try dsimp only at hSw); go_simp; try with_reducible rfl)
                  try simp only [Act.put, List.setIfInBounds_toArray, List.set_cons_zero, List.set_cons_succ]
                  refine wpAnyH_take (i := 6) (oi := { dst := some 45, op := Go.Op.move (Go.Operand.tmp 6), type := 3, pos := "l15_stack.go:11", after := #[], guard := none }) (v := ?_) rfl (by kernel_rfl) (by kernel_rfl) (by kernel_rfl) (fun _ _ _ h => h) (Or.inl ⟨by rfl, ?_⟩) (by assumption) ?_
                  rotate_left
                  · (intro w hSw; (try dsimp only at hSw); go_simp; try with_reducible rfl)
                  try simp only [Act.put, List.setIfInBounds_toArray, List.set_cons_zero, List.set_cons_succ]
                  refine wpAnyH_take (i := 7) (oi := { dst := some 46, op := Go.Op.indexAddr 32 (Go.Operand.tmp 44) (Go.Operand.tmp 45), type := 0, pos := "l15_stack.go:11", after := #[{ on := 5, ground := Go.Ground.data }, { on := 6, ground := Go.Ground.data }], guard := none }) (v := ?_) rfl (by kernel_rfl) (by kernel_rfl) (by kernel_rfl) (fun _ _ _ h => h) (Or.inl ⟨by rfl, ?_⟩) (by assumption) ?_
                  rotate_left
                  · (intro w hSw; (try dsimp only at hSw); go_simp; try with_reducible rfl)
                  try simp only [Act.put, List.setIfInBounds_toArray, List.set_cons_zero, List.set_cons_succ]
                  refine wpAnyH_take (i := 8) (oi := { dst := some 47, op := Go.Op.load 3 (Go.Operand.tmp 46), type := 3, pos := "l15_stack.go:11", after := #[{ on := 7, ground := Go.Ground.data }], guard := none }) (v := ?_) rfl (by kernel_rfl) (by kernel_rfl) (by kernel_rfl) (fun _ _ _ h => h) (Or.inl ⟨by rfl, ?_⟩) (by assumption) ?_
                  rotate_left
                  · (intro w hSw; (try dsimp only at hSw); go_simp; try with_reducible rfl)
                  try simp only [Act.put, List.setIfInBounds_toArray, List.set_cons_zero, List.set_cons_succ]
                  refine wpAnyH_ready (rs := [9]) (by kernel_rfl) (by simp) ?_
                  refine AllReadyH.cons (o := { dst := some 48, op := Go.Op.call { callee := Go.Callee.value (Go.Operand.func 72), args := #[Go.Operand.tmp 39, Go.Operand.tmp 40, Go.Operand.tmp 47], argTypes := #[25, 3, 3] }, type := 3, pos := "l15_stack.go:11", after := #[{ on := 0, ground := Go.Ground.data }, { on := 1, ground := Go.Ground.data }, { on := 8, ground := Go.Ground.data }], guard := none }) rfl (fun K9 hK9 => ?_) AllReadyH.nil
                  go_simp
                  (refine (HNd.out _).mono ?_; rintro e v1 ⟨rfl, hb⟩; have hb3 := Lib.hid (below_call (below_draws hbl.out 1) hb); have hx3 := Lib.hid ((hbx.out.draws 1).call hb); have f2 := cell_keep hb e2; have f3 := cell_keep hb e3; clear hb; obtain ⟨d0, d1⟩ := hx3.out.1)
                  go_wp2_with fail
                  refine hK9.out _ _ ?_ (fun hHeld1 => ?_)
                  · (try dsimp only); go_keep
                  clear hK9 K9 hHeld0
                  try simp only [Act.put, List.setIfInBounds_toArray, List.set_cons_zero, List.set_cons_succ]
                  refine wpAnyH_take (i := 10) (oi := { dst := some 49, op := Go.Op.binOp Go.BinOp.lss 3 (Go.Operand.tmp 48) (Go.Operand.const (Go.Value.int Go.IntKind.i64 0)) 3, type := 4, pos := "l15_stack.go:11", after := #[{ on := 9, ground := Go.Ground.data }], guard := none }) (v := ?_) rfl (by kernel_rfl) (by kernel_rfl) (by kernel_rfl) (fun _ _ _ h => h) (Or.inl ⟨by rfl, ?_⟩) (by assumption) ?_
                  rotate_left
                  · (intro w hSw; (try dsimp only at hSw); go_simp; try with_reducible rfl)
                  try simp only [Act.put, List.setIfInBounds_toArray, List.set_cons_zero, List.set_cons_succ]
                  refine wpAnyH_take (i := 11) (oi := { dst := some 50, op := Go.Op.move (Go.Operand.tmp 49), type := 4, pos := "l15_stack.go:11", after := #[{ on := 10, ground := Go.Ground.data }, { on := 9, ground := Go.Ground.chain }], guard := none }) (v := ?_) rfl (by kernel_rfl) (by kernel_rfl) (by kernel_rfl) (fun _ _ _ h => h) (Or.inl ⟨by rfl, ?_⟩) (by assumption) ?_
                  rotate_left
                  · (intro w hSw; (try dsimp only at hSw); go_simp; try with_reducible rfl)
                  try simp only [Act.put, List.setIfInBounds_toArray, List.set_cons_zero, List.set_cons_succ]
                  refine wpAnyH_take (i := 12) (oi := { dst := some 51, op := Go.Op.move (Go.Operand.tmp 1), type := 37, pos := "l15_stack.go:11", after := #[{ on := 11, ground := Go.Ground.guard }], guard := some (11, false) }) (v := undef) rfl (by kernel_rfl) (by kernel_rfl) (by kernel_rfl) (fun _ _ _ h => h) (Or.inr ⟨by rfl, rfl⟩) (by assumption) ?_
                  try simp only [Act.put, List.setIfInBounds_toArray, List.set_cons_zero, List.set_cons_succ]
                  refine wpAnyH_take (i := 13) (oi := { dst := some 52, op := Go.Op.move (Go.Operand.tmp 5), type := 3, pos := "l15_stack.go:11", after := #[{ on := 11, ground := Go.Ground.guard }], guard := some (11, false) }) (v := undef) rfl (by kernel_rfl) (by kernel_rfl) (by kernel_rfl) (fun _ _ _ h => h) (Or.inr ⟨by rfl, rfl⟩) (by assumption) ?_
                  try simp only [Act.put, List.setIfInBounds_toArray, List.set_cons_zero, List.set_cons_succ]
                  refine wpAnyH_take (i := 14) (oi := { dst := some 53, op := Go.Op.indexAddr 37 (Go.Operand.tmp 51) (Go.Operand.tmp 52), type := 0, pos := "l15_stack.go:11", after := #[{ on := 12, ground := Go.Ground.data }, { on := 13, ground := Go.Ground.data }, { on := 11, ground := Go.Ground.guard }], guard := some (11, false) }) (v := undef) rfl (by kernel_rfl) (by kernel_rfl) (by kernel_rfl) (fun _ _ _ h => h) (Or.inr ⟨by rfl, rfl⟩) (by assumption) ?_
                  try simp only [Act.put, List.setIfInBounds_toArray, List.set_cons_zero, List.set_cons_succ]
                  refine wpAnyH_take (i := 15) (oi := { dst := some 54, op := Go.Op.load 32 (Go.Operand.tmp 53), type := 32, pos := "l15_stack.go:11", after := #[{ on := 14, ground := Go.Ground.data }, { on := 11, ground := Go.Ground.guard }], guard := some (11, false) }) (v := undef) rfl (by kernel_rfl) (by kernel_rfl) (by kernel_rfl) (fun _ _ _ h => h) (Or.inr ⟨by rfl, rfl⟩) (by assumption) ?_
                  try simp only [Act.put, List.setIfInBounds_toArray, List.set_cons_zero, List.set_cons_succ]
                  refine wpAnyH_take (i := 16) (oi := { dst := some 55, op := Go.Op.call { callee := Go.Callee.builtin Go.Builtin.len, args := #[Go.Operand.tmp 54], argTypes := #[32] }, type := 3, pos := "l15_stack.go:11", after := #[{ on := 15, ground := Go.Ground.data }, { on := 11, ground := Go.Ground.guard }], guard := some (11, false) }) (v := undef) rfl (by kernel_rfl) (by kernel_rfl) (by kernel_rfl) (fun _ _ _ h => h) (Or.inr ⟨by rfl, rfl⟩) (by assumption) ?_
                  try simp only [Act.put, List.setIfInBounds_toArray, List.set_cons_zero, List.set_cons_succ]
                  refine wpAnyH_take (i := 17) (oi := { dst := some 56, op := Go.Op.binOp Go.BinOp.gtr 3 (Go.Operand.tmp 55) (Go.Operand.const (Go.Value.int Go.IntKind.i64 60)) 3, type := 4, pos := "l15_stack.go:11", after := #[{ on := 16, ground := Go.Ground.data }, { on := 11, ground := Go.Ground.guard }], guard := some (11, false) }) (v := undef) rfl (by kernel_rfl) (by kernel_rfl) (by kernel_rfl) (fun _ _ _ h => h) (Or.inr ⟨by rfl, rfl⟩) (by assumption) ?_
                  try simp only [Act.put, List.setIfInBounds_toArray, List.set_cons_zero, List.set_cons_succ]
                  refine wpAnyH_take (i := 18) (oi := { dst := some 57, op := Go.Op.pick (Go.Operand.tmp 50) (Go.Operand.const (Go.Value.bool true)) (Go.Operand.tmp 56), type := 4, pos := "l15_stack.go:11", after := #[{ on := 11, ground := Go.Ground.data }, { on := 17, ground := Go.Ground.data }], guard := none }) (v := ?_) rfl (by kernel_rfl) (by kernel_rfl) (by kernel_rfl) (fun _ _ _ h => h) (Or.inl ⟨by rfl, ?_⟩) (by assumption) ?_
                  rotate_left
                  · (intro w hSw; (try dsimp only at hSw); go_simp; try with_reducible rfl)
                  try simp only [Act.put, List.setIfInBounds_toArray, List.set_cons_zero, List.set_cons_succ]
                  refine wpAnyH_done (by kernel_rfl) ?_ _
                  go_wp2_with fail
                  go_ret
                  exact HK.out _ _ HE.out hb3.out
                · have hdn : decide (nbZ x y k d < 0) = false := decide_eq_false hnv
                  by_cases h6 : 60 < r.length
                  · have HE := Lib.hid (HBk.out fun h => by have := h.1; omega)
                    have h6' : (60 : Int) < (r.length : Int) := by omega
                    clear r2 hd hmem hnv
                    generalize nbZ x y k d = nv at *
                    go_wp2_with fail
                    try simp only [List.cons_append, List.nil_append, List.append_eq]
                    refine wp_region_held_drew (S := (fun w' => w'.cell? (ad.add k) = some (.slice (some ai) r.length c2) ∧ w'.cell? (ai.add i) = some (.int .i64 d) ∧ w'.cell? ⟨W.heap.size, 0, none⟩ = some (.int .i64 x) ∧ w'.cell? ⟨W.heap.size, 1, none⟩ = some (.int .i64 y))) (by kernel_rfl) ?_ (fun hHeld0 => ?_)
                    · (try dsimp only); go_keep
                    refine wpAnyH_take (i := 0) (oi := { dst := some 39, op := Go.Op.load 25 (Go.Operand.tmp 2), type := 25, pos := "l15_stack.go:11", after := #[], guard := none }) (v := ?_) rfl (by kernel_rfl) (by kernel_rfl) (by kernel_rfl) (fun _ _ _ h => h) (Or.inl ⟨by rfl, ?_⟩) (by assumption) ?_
                    rotate_left
                    · (intro w hSw; (try dsimp only at hSw); go_simp; try with_reducible rfl)
                    try simp only [Act.put, List.setIfInBounds_toArray, List.set_cons_zero, List.set_cons_succ]
                    refine wpAnyH_take (i := 1) (oi := { dst := some 40, op := Go.Op.move (Go.Operand.tmp 5), type := 3, pos := "l15_stack.go:11", after := #[], guard := none }) (v := ?_) rfl (by kernel_rfl) (by kernel_rfl) (by kernel_rfl) (fun _ _ _ h => h) (Or.inl ⟨by rfl, ?_⟩) (by assumption) ?_
                    rotate_left
                    · (intro w hSw; (try dsimp only at hSw); go_simp; try with_reducible rfl)
                    try simp only [Act.put, List.setIfInBounds_toArray, List.set_cons_zero, List.set_cons_succ]
                    refine wpAnyH_take (i := 2) (oi := { dst := some 41, op := Go.Op.move (Go.Operand.tmp 1), type := 37, pos := "l15_stack.go:11", after := #[], guard := none }) (v := ?_) rfl (by kernel_rfl) (by kernel_rfl) (by kernel_rfl) (fun _ _ _ h => h) (Or.inl ⟨by rfl, ?_⟩) (by assumption) ?_
                    rotate_left
                    · (intro w hSw; (try dsimp only at hSw); go_simp; try with_reducible rfl)
                    try simp only [Act.put, List.setIfInBounds_toArray, List.set_cons_zero, List.set_cons_succ]
                    refine wpAnyH_take (i := 3) (oi := { dst := some 42, op := Go.Op.move (Go.Operand.tmp 5), type := 3, pos := "l15_stack.go:11", after := #[], guard := none }) (v := ?_) rfl (by kernel_rfl) (by kernel_rfl) (by kernel_rfl) (fun _ _ _ h => h) (Or.inl ⟨by rfl, ?_⟩) (by assumption) ?_
                    rotate_left
                    · (intro w hSw; (try dsimp only at hSw); go_simp; try with_reducible rfl)
                    try simp only [Act.put, List.setIfInBounds_toArray, List.set_cons_zero, List.set_cons_succ]
                    refine wpAnyH_take (i := 4) (oi := { dst := some 43, op := Go.Op.indexAddr 37 (Go.Operand.tmp 41) (Go.Operand.tmp 42), type := 0, pos := "l15_stack.go:11", after := #[{ on := 2, ground := Go.Ground.data }, { on := 3, ground := Go.Ground.data }], guard := none }) (v := ?_) rfl (by kernel_rfl) (by kernel_rfl) (by kernel_rfl) (fun _ _ _ h => h) (Or.inl ⟨by rfl, ?_⟩) (by assumption) ?_
                    rotate_left
                    · (intro w hSw; (try dsimp only at hSw); go_simp; try with_reducible rfl)
                    try simp only [Act.put, List.setIfInBounds_toArray, List.set_cons_zero, List.set_cons_succ]
                    refine wpAnyH_take (i := 5) (oi := { dst := some 44, op := Go.Op.load 32 (Go.Operand.tmp 43), type := 32, pos := "l15_stack.go:11", after := #[{ on := 4, ground := Go.Ground.data }], guard := none }) (v := ?_) rfl (by kernel_rfl) (by kernel_rfl) (by kernel_rfl) (fun _ _ _ h => h) (Or.inl ⟨by rfl, ?_⟩) (by assumption) ?_
                    rotate_left
                    · (intro w hSw; (try dsimp only at hSw); go_simp; try with_reducible rfl)
                    try simp only [Act.put, List.setIfInBounds_toArray, List.set_cons_zero, List.set_cons_succ]
                    refine wpAnyH_take (i := 6) (oi := { dst := some 45, op := Go.Op.move (Go.Operand.tmp 6), type := 3, pos := "l15_stack.go:11", after := #[], guard := none }) (v := ?_) rfl (by kernel_rfl) (by kernel_rfl) (by kernel_rfl) (fun _ _ _ h => h) (Or.inl ⟨by rfl, ?_⟩) (by assumption) ?_
                    rotate_left
                    · (intro w hSw; (try dsimp only at hSw); go_simp; try with_reducible rfl)
                    try simp only [Act.put, List.setIfInBounds_toArray, List.set_cons_zero, List.set_cons_succ]
                    refine wpAnyH_take (i := 7) (oi := { dst := some 46, op := Go.Op.indexAddr 32 (Go.Operand.tmp 44) (Go.Operand.tmp 45), type := 0, pos := "l15_stack.go:11", after := #[{ on := 5, ground := Go.Ground.data }, { on := 6, ground := Go.Ground.data }], guard := none }) (v := ?_) rfl (by kernel_rfl) (by kernel_rfl) (by kernel_rfl) (fun _ _ _ h => h) (Or.inl ⟨by rfl, ?_⟩) (by assumption) ?_
                    rotate_left
                    · (intro w hSw; (try dsimp only at hSw); go_simp; try with_reducible rfl)
                    try simp only [Act.put, List.setIfInBounds_toArray, List.set_cons_zero, List.set_cons_succ]
                    refine wpAnyH_take (i := 8) (oi := { dst := some 47, op := Go.Op.load 3 (Go.Operand.tmp 46), type := 3, pos := "l15_stack.go:11", after := #[{ on := 7, ground := Go.Ground.data }], guard := none }) (v := ?_) rfl (by kernel_rfl) (by kernel_rfl) (by kernel_rfl) (fun _ _ _ h => h) (Or.inl ⟨by rfl, ?_⟩) (by assumption) ?_
                    rotate_left
                    · (intro w hSw; (try dsimp only at hSw); go_simp; try with_reducible rfl)
                    try simp only [Act.put, List.setIfInBounds_toArray, List.set_cons_zero, List.set_cons_succ]
                    refine wpAnyH_ready (rs := [9]) (by kernel_rfl) (by simp) ?_
                    refine AllReadyH.cons (o := { dst := some 48, op := Go.Op.call { callee := Go.Callee.value (Go.Operand.func 72), args := #[Go.Operand.tmp 39, Go.Operand.tmp 40, Go.Operand.tmp 47], argTypes := #[25, 3, 3] }, type := 3, pos := "l15_stack.go:11", after := #[{ on := 0, ground := Go.Ground.data }, { on := 1, ground := Go.Ground.data }, { on := 8, ground := Go.Ground.data }], guard := none }) rfl (fun K9 hK9 => ?_) AllReadyH.nil
                    go_simp
                    (refine (HNd.out _).mono ?_; rintro e v1 ⟨rfl, hb⟩; have hb3 := Lib.hid (below_call (below_draws hbl.out 1) hb); have hx3 := Lib.hid ((hbx.out.draws 1).call hb); have f2 := cell_keep hb e2; have f3 := cell_keep hb e3; clear hb; obtain ⟨d0, d1⟩ := hx3.out.1)
                    go_wp2_with fail
                    refine hK9.out _ _ ?_ (fun hHeld1 => ?_)
                    · (try dsimp only); go_keep
                    clear hK9 K9 hHeld0
                    try simp only [Act.put, List.setIfInBounds_toArray, List.set_cons_zero, List.set_cons_succ]
                    refine wpAnyH_take (i := 10) (oi := { dst := some 49, op := Go.Op.binOp Go.BinOp.lss 3 (Go.Operand.tmp 48) (Go.Operand.const (Go.Value.int Go.IntKind.i64 0)) 3, type := 4, pos := "l15_stack.go:11", after := #[{ on := 9, ground := Go.Ground.data }], guard := none }) (v := ?_) rfl (by kernel_rfl) (by kernel_rfl) (by kernel_rfl) (fun _ _ _ h => h) (Or.inl ⟨by rfl, ?_⟩) (by assumption) ?_
                    rotate_left
                    · (intro w hSw; (try dsimp only at hSw); go_simp; try with_reducible rfl)
                    try simp only [Act.put, List.setIfInBounds_toArray, List.set_cons_zero, List.set_cons_succ]
                    refine wpAnyH_take (i := 11) (oi := { dst := some 50, op := Go.Op.move (Go.Operand.tmp 49), type := 4, pos := "l15_stack.go:11", after := #[{ on := 10, ground := Go.Ground.data }, { on := 9, ground := Go.Ground.chain }], guard := none }) (v := ?_) rfl (by kernel_rfl) (by kernel_rfl) (by kernel_rfl) (fun _ _ _ h => h) (Or.inl ⟨by rfl, ?_⟩) (by assumption) ?_
                    rotate_left
                    · (intro w hSw; (try dsimp only at hSw); go_simp; try with_reducible rfl)
                    try simp only [Act.put, List.setIfInBounds_toArray, List.set_cons_zero, List.set_cons_succ]
                    refine wpAnyH_take (i := 12) (oi := { dst := some 51, op := Go.Op.move (Go.Operand.tmp 1), type := 37, pos := "l15_stack.go:11", after := #[{ on := 11, ground := Go.Ground.guard }], guard := some (11, false) }) (v := ?_) rfl (by kernel_rfl) (by kernel_rfl) (by kernel_rfl) (fun _ _ _ h => h) (Or.inl ⟨by rfl, ?_⟩) (by assumption) ?_
                    rotate_left
                    · (intro w hSw; (try dsimp only at hSw); go_simp; try with_reducible rfl)
                    try simp only [Act.put, List.setIfInBounds_toArray, List.set_cons_zero, List.set_cons_succ]
                    refine wpAnyH_take (i := 13) (oi := { dst := some 52, op := Go.Op.move (Go.Operand.tmp 5), type := 3, pos := "l15_stack.go:11", after := #[{ on := 11, ground := Go.Ground.guard }], guard := some (11, false) }) (v := ?_) rfl (by kernel_rfl) (by kernel_rfl) (by kernel_rfl) (fun _ _ _ h => h) (Or.inl ⟨by rfl, ?_⟩) (by assumption) ?_
                    rotate_left
                    · (intro w hSw; (try dsimp only at hSw); go_simp; try with_reducible rfl)
                    try simp only [Act.put, List.setIfInBounds_toArray, List.set_cons_zero, List.set_cons_succ]
                    refine wpAnyH_take (i := 14) (oi := { dst := some 53, op := Go.Op.indexAddr 37 (Go.Operand.tmp 51) (Go.Operand.tmp 52), type := 0, pos := "l15_stack.go:11", after := #[{ on := 12, ground := Go.Ground.data }, { on := 13, ground := Go.Ground.data }, { on := 11, ground := Go.Ground.guard }], guard := some (11, false) }) (v := ?_) rfl (by kernel_rfl) (by kernel_rfl) (by kernel_rfl) (fun _ _ _ h => h) (Or.inl ⟨by rfl, ?_⟩) (by assumption) ?_
                    rotate_left
                    · (intro w hSw; (try dsimp only at hSw); go_simp; try with_reducible rfl)
                    try simp only [Act.put, List.setIfInBounds_toArray, List.set_cons_zero, List.set_cons_succ]
                    refine wpAnyH_take (i := 15) (oi := { dst := some 54, op := Go.Op.load 32 (Go.Operand.tmp 53), type := 32, pos := "l15_stack.go:11", after := #[{ on := 14, ground := Go.Ground.data }, { on := 11, ground := Go.Ground.guard }], guard := some (11, false) }) (v := ?_) rfl (by kernel_rfl) (by kernel_rfl) (by kernel_rfl) (fun _ _ _ h => h) (Or.inl ⟨by rfl, ?_⟩) (by assumption) ?_
                    rotate_left
                    · (intro w hSw; (try dsimp only at hSw); go_simp; try with_reducible rfl)
                    try simp only [Act.put, List.setIfInBounds_toArray, List.set_cons_zero, List.set_cons_succ]
                    refine wpAnyH_take (i := 16) (oi := { dst := some 55, op := Go.Op.call { callee := Go.Callee.builtin Go.Builtin.len, args := #[Go.Operand.tmp 54], argTypes := #[32] }, type := 3, pos := "l15_stack.go:11", after := #[{ on := 15, ground := Go.Ground.data }, { on := 11, ground := Go.Ground.guard }], guard := some (11, false) }) (v := ?_) rfl (by kernel_rfl) (by kernel_rfl) (by kernel_rfl) (fun _ _ _ h => h) (Or.inl ⟨by rfl, ?_⟩) (by assumption) ?_
                    rotate_left
                    · (intro w hSw; (try dsimp only at hSw); go_simp; try with_reducible rfl)
                    try simp only [Act.put, List.setIfInBounds_toArray, List.set_cons_zero, List.set_cons_succ]
                    refine wpAnyH_take (i := 17) (oi := { dst := some 56, op := Go.Op.binOp Go.BinOp.gtr 3 (Go.Operand.tmp 55) (Go.Operand.const (Go.Value.int Go.IntKind.i64 60)) 3, type := 4, pos := "l15_stack.go:11", after := #[{ on := 16, ground := Go.Ground.data }, { on := 11, ground := Go.Ground.guard }], guard := some (11, false) }) (v := ?_) rfl (by kernel_rfl) (by kernel_rfl) (by kernel_rfl) (fun _ _ _ h => h) (Or.inl ⟨by rfl, ?_⟩) (by assumption) ?_
                    rotate_left
                    · (intro w hSw; (try dsimp only at hSw); go_simp; try with_reducible rfl)
                    try simp only [Act.put, List.setIfInBounds_toArray, List.set_cons_zero, List.set_cons_succ]
                    refine wpAnyH_take (i := 18) (oi := { dst := some 57, op := Go.Op.pick (Go.Operand.tmp 50) (Go.Operand.const (Go.Value.bool true)) (Go.Operand.tmp 56), type := 4, pos := "l15_stack.go:11", after := #[{ on := 11, ground := Go.Ground.data }, { on := 17, ground := Go.Ground.data }], guard := none }) (v := ?_) rfl (by kernel_rfl) (by kernel_rfl) (by kernel_rfl) (fun _ _ _ h => h) (Or.inl ⟨by rfl, ?_⟩) (by assumption) ?_
                    rotate_left
                    · (intro w hSw; (try dsimp only at hSw); go_simp; try with_reducible rfl)
                    try simp only [Act.put, List.setIfInBounds_toArray, List.set_cons_zero, List.set_cons_succ]
                    refine wpAnyH_done (by kernel_rfl) ?_ _
                    go_wp2_with fail
                    go_ret
                    exact HK.out _ _ HE.out hb3.out
                  · have HN := Lib.hid (take_next (P := fun d => nbZ x y k d ≠ -1) hd HAll.out (fun e => hnv (by rw [e]; decide)))
                    have h6' : ¬ (60 : Int) < (r.length : Int) := by omega
                    clear r2 hd hmem hnv
                    generalize nbZ x y k d = nv at *
                    go_wp2_with fail
                    try simp only [List.cons_append, List.nil_append, List.append_eq]
                    refine wp_region_held_drew (S := (fun w' => w'.cell? (ad.add k) = some (.slice (some ai) r.length c2) ∧ w'.cell? (ai.add i) = some (.int .i64 d) ∧ w'.cell? ⟨W.heap.size, 0, none⟩ = some (.int .i64 x) ∧ w'.cell? ⟨W.heap.size, 1, none⟩ = some (.int .i64 y))) (by kernel_rfl) ?_ (fun hHeld0 => ?_)
                    · (try dsimp only); go_keep
                    refine wpAnyH_take (i := 0) (oi := { dst := some 39, op := Go.Op.load 25 (Go.Operand.tmp 2), type := 25, pos := "l15_stack.go:11", after := #[], guard := none }) (v := ?_) rfl (by kernel_rfl) (by kernel_rfl) (by kernel_rfl) (fun _ _ _ h => h) (Or.inl ⟨by rfl, ?_⟩) (by assumption) ?_
                    rotate_left
                    · (intro w hSw; (try dsimp only at hSw); go_simp; try with_reducible rfl)
                    try simp only [Act.put, List.setIfInBounds_toArray, List.set_cons_zero, List.set_cons_succ]
                    refine wpAnyH_take (i := 1) (oi := { dst := some 40, op := Go.Op.move (Go.Operand.tmp 5), type := 3, pos := "l15_stack.go:11", after := #[], guard := none }) (v := ?_) rfl (by kernel_rfl) (by kernel_rfl) (by kernel_rfl) (fun _ _ _ h => h) (Or.inl ⟨by rfl, ?_⟩) (by assumption) ?_
                    rotate_left
                    · (intro w hSw; (try dsimp only at hSw); go_simp; try with_reducible rfl)
                    try simp only [Act.put, List.setIfInBounds_toArray, List.set_cons_zero, List.set_cons_succ]
                    refine wpAnyH_take (i := 2) (oi := { dst := some 41, op := Go.Op.move (Go.Operand.tmp 1), type := 37, pos := "l15_stack.go:11", after := #[], guard := none }) (v := ?_) rfl (by kernel_rfl) (by kernel_rfl) (by kernel_rfl) (fun _ _ _ h => h) (Or.inl ⟨by rfl, ?_⟩) (by assumption) ?_
                    rotate_left
                    · (intro w hSw; (try dsimp only at hSw); go_simp; try with_reducible rfl)
                    try simp only [Act.put, List.setIfInBounds_toArray, List.set_cons_zero, List.set_cons_succ]
                    refine wpAnyH_take (i := 3) (oi := { dst := some 42, op := Go.Op.move (Go.Operand.tmp 5), type := 3, pos := "l15_stack.go:11", after := #[], guard := none }) (v := ?_) rfl (by kernel_rfl) (by kernel_rfl) (by kernel_rfl) (fun _ _ _ h => h) (Or.inl ⟨by rfl, ?_⟩) (by assumption) ?_
                    rotate_left
                    · (intro w hSw; (try dsimp only at hSw); go_simp; try with_reducible rfl)
                    try simp only [Act.put, List.setIfInBounds_toArray, List.set_cons_zero, List.set_cons_succ]
                    refine wpAnyH_take (i := 4) (oi := { dst := some 43, op := Go.Op.indexAddr 37 (Go.Operand.tmp 41) (Go.Operand.tmp 42), type := 0, pos := "l15_stack.go:11", after := #[{ on := 2, ground := Go.Ground.data }, { on := 3, ground := Go.Ground.data }], guard := none }) (v := ?_) rfl (by kernel_rfl) (by kernel_rfl) (by kernel_rfl) (fun _ _ _ h => h) (Or.inl ⟨by rfl, ?_⟩) (by assumption) ?_
                    rotate_left
                    · (intro w hSw; (try dsimp only at hSw); go_simp; try with_reducible rfl)
                    try simp only [Act.put, List.setIfInBounds_toArray, List.set_cons_zero, List.set_cons_succ]
                    refine wpAnyH_take (i := 5) (oi := { dst := some 44, op := Go.Op.load 32 (Go.Operand.tmp 43), type := 32, pos := "l15_stack.go:11", after := #[{ on := 4, ground := Go.Ground.data }], guard := none }) (v := ?_) rfl (by kernel_rfl) (by kernel_rfl) (by kernel_rfl) (fun _ _ _ h => h) (Or.inl ⟨by rfl, ?_⟩) (by assumption) ?_
                    rotate_left
                    · (intro w hSw; (try dsimp only at hSw); go_simp; try with_reducible rfl)
                    try simp only [Act.put, List.setIfInBounds_toArray, List.set_cons_zero, List.set_cons_succ]
                    refine wpAnyH_take (i := 6) (oi := { dst := some 45, op := Go.Op.move (Go.Operand.tmp 6), type := 3, pos := "l15_stack.go:11", after := #[], guard := none }) (v := ?_) rfl (by kernel_rfl) (by kernel_rfl) (by kernel_rfl) (fun _ _ _ h => h) (Or.inl ⟨by rfl, ?_⟩) (by assumption) ?_
                    rotate_left
                    · (intro w hSw; (try dsimp only at hSw); go_simp; try with_reducible rfl)
                    try simp only [Act.put, List.setIfInBounds_toArray, List.set_cons_zero, List.set_cons_succ]
                    refine wpAnyH_take (i := 7) (oi := { dst := some 46, op := Go.Op.indexAddr 32 (Go.Operand.tmp 44) (Go.Operand.tmp 45), type := 0, pos := "l15_stack.go:11", after := #[{ on := 5, ground := Go.Ground.data }, { on := 6, ground := Go.Ground.data }], guard := none }) (v := ?_) rfl (by kernel_rfl) (by kernel_rfl) (by kernel_rfl) (fun _ _ _ h => h) (Or.inl ⟨by rfl, ?_⟩) (by assumption) ?_
                    rotate_left
                    · (intro w hSw; (try dsimp only at hSw); go_simp; try with_reducible rfl)
                    try simp only [Act.put, List.setIfInBounds_toArray, List.set_cons_zero, List.set_cons_succ]
                    refine wpAnyH_take (i := 8) (oi := { dst := some 47, op := Go.Op.load 3 (Go.Operand.tmp 46), type := 3, pos := "l15_stack.go:11", after := #[{ on := 7, ground := Go.Ground.data }], guard := none }) (v := ?_) rfl (by kernel_rfl) (by kernel_rfl) (by kernel_rfl) (fun _ _ _ h => h) (Or.inl ⟨by rfl, ?_⟩) (by assumption) ?_
                    rotate_left
                    · (intro w hSw; (try dsimp only at hSw); go_simp; try with_reducible rfl)
                    try simp only [Act.put, List.setIfInBounds_toArray, List.set_cons_zero, List.set_cons_succ]
                    refine wpAnyH_ready (rs := [9]) (by kernel_rfl) (by simp) ?_
                    refine AllReadyH.cons (o := { dst := some 48, op := Go.Op.call { callee := Go.Callee.value (Go.Operand.func 72), args := #[Go.Operand.tmp 39, Go.Operand.tmp 40, Go.Operand.tmp 47], argTypes := #[25, 3, 3] }, type := 3, pos := "l15_stack.go:11", after := #[{ on := 0, ground := Go.Ground.data }, { on := 1, ground := Go.Ground.data }, { on := 8, ground := Go.Ground.data }], guard := none }) rfl (fun K9 hK9 => ?_) AllReadyH.nil
                    go_simp
                    (refine (HNd.out _).mono ?_; rintro e v1 ⟨rfl, hb⟩; have hb3 := Lib.hid (below_call (below_draws hbl.out 1) hb); have hx3 := Lib.hid ((hbx.out.draws 1).call hb); have f2 := cell_keep hb e2; have f3 := cell_keep hb e3; clear hb; obtain ⟨d0, d1⟩ := hx3.out.1)
                    go_wp2_with fail
                    refine hK9.out _ _ ?_ (fun hHeld1 => ?_)
                    · (try dsimp only); go_keep
                    clear hK9 K9 hHeld0
                    try simp only [Act.put, List.setIfInBounds_toArray, List.set_cons_zero, List.set_cons_succ]
                    refine wpAnyH_take (i := 10) (oi := { dst := some 49, op := Go.Op.binOp Go.BinOp.lss 3 (Go.Operand.tmp 48) (Go.Operand.const (Go.Value.int Go.IntKind.i64 0)) 3, type := 4, pos := "l15_stack.go:11", after := #[{ on := 9, ground := Go.Ground.data }], guard := none }) (v := ?_) rfl (by kernel_rfl) (by kernel_rfl) (by kernel_rfl) (fun _ _ _ h => h) (Or.inl ⟨by rfl, ?_⟩) (by assumption) ?_
                    rotate_left
                    · (intro w hSw; (try dsimp only at hSw); go_simp; try with_reducible rfl)
                    try simp only [Act.put, List.setIfInBounds_toArray, List.set_cons_zero, List.set_cons_succ]
                    refine wpAnyH_take (i := 11) (oi := { dst := some 50, op := Go.Op.move (Go.Operand.tmp 49), type := 4, pos := "l15_stack.go:11", after := #[{ on := 10, ground := Go.Ground.data }, { on := 9, ground := Go.Ground.chain }], guard := none }) (v := ?_) rfl (by kernel_rfl) (by kernel_rfl) (by kernel_rfl) (fun _ _ _ h => h) (Or.inl ⟨by rfl, ?_⟩) (by assumption) ?_
                    rotate_left
                    · (intro w hSw; (try dsimp only at hSw); go_simp; try with_reducible rfl)
                    try simp only [Act.put, List.setIfInBounds_toArray, List.set_cons_zero, List.set_cons_succ]
                    refine wpAnyH_take (i := 12) (oi := { dst := some 51, op := Go.Op.move (Go.Operand.tmp 1), type := 37, pos := "l15_stack.go:11", after := #[{ on := 11, ground := Go.Ground.guard }], guard := some (11, false) }) (v := ?_) rfl (by kernel_rfl) (by kernel_rfl) (by kernel_rfl) (fun _ _ _ h => h) (Or.inl ⟨by rfl, ?_⟩) (by assumption) ?_
                    rotate_left
                    · (intro w hSw; (try dsimp only at hSw); go_simp; try with_reducible rfl)
                    try simp only [Act.put, List.setIfInBounds_toArray, List.set_cons_zero, List.set_cons_succ]
                    refine wpAnyH_take (i := 13) (oi := { dst := some 52, op := Go.Op.move (Go.Operand.tmp 5), type := 3, pos := "l15_stack.go:11", after := #[{ on := 11, ground := Go.Ground.guard }], guard := some (11, false) }) (v := ?_) rfl (by kernel_rfl) (by kernel_rfl) (by kernel_rfl) (fun _ _ _ h => h) (Or.inl ⟨by rfl, ?_⟩) (by assumption) ?_
                    rotate_left
                    · (intro w hSw; (try dsimp only at hSw); go_simp; try with_reducible rfl)
                    try simp only [Act.put, List.setIfInBounds_toArray, List.set_cons_zero, List.set_cons_succ]
                    refine wpAnyH_take (i := 14) (oi := { dst := some 53, op := Go.Op.indexAddr 37 (Go.Operand.tmp 51) (Go.Operand.tmp 52), type := 0, pos := "l15_stack.go:11", after := #[{ on := 12, ground := Go.Ground.data }, { on := 13, ground := Go.Ground.data }, { on := 11, ground := Go.Ground.guard }], guard := some (11, false) }) (v := ?_) rfl (by kernel_rfl) (by kernel_rfl) (by kernel_rfl) (fun _ _ _ h => h) (Or.inl ⟨by rfl, ?_⟩) (by assumption) ?_
                    rotate_left
                    · (intro w hSw; (try dsimp only at hSw); go_simp; try with_reducible rfl)
                    try simp only [Act.put, List.setIfInBounds_toArray, List.set_cons_zero, List.set_cons_succ]
                    refine wpAnyH_take (i := 15) (oi := { dst := some 54, op := Go.Op.load 32 (Go.Operand.tmp 53), type := 32, pos := "l15_stack.go:11", after := #[{ on := 14, ground := Go.Ground.data }, { on := 11, ground := Go.Ground.guard }], guard := some (11, false) }) (v := ?_) rfl (by kernel_rfl) (by kernel_rfl) (by kernel_rfl) (fun _ _ _ h => h) (Or.inl ⟨by rfl, ?_⟩) (by assumption) ?_
                    rotate_left
                    · (intro w hSw; (try dsimp only at hSw); go_simp; try with_reducible rfl)
                    try simp only [Act.put, List.setIfInBounds_toArray, List.set_cons_zero, List.set_cons_succ]
                    refine wpAnyH_take (i := 16) (oi := { dst := some 55, op := Go.Op.call { callee := Go.Callee.builtin Go.Builtin.len, args := #[Go.Operand.tmp 54], argTypes := #[32] }, type := 3, pos := "l15_stack.go:11", after := #[{ on := 15, ground := Go.Ground.data }, { on := 11, ground := Go.Ground.guard }], guard := some (11, false) }) (v := ?_) rfl (by kernel_rfl) (by kernel_rfl) (by kernel_rfl) (fun _ _ _ h => h) (Or.inl ⟨by rfl, ?_⟩) (by assumption) ?_
                    rotate_left
                    · (intro w hSw; (try dsimp only at hSw); go_simp; try with_reducible rfl)
                    try simp only [Act.put, List.setIfInBounds_toArray, List.set_cons_zero, List.set_cons_succ]
                    refine wpAnyH_take (i := 17) (oi := { dst := some 56, op := Go.Op.binOp Go.BinOp.gtr 3 (Go.Operand.tmp 55) (Go.Operand.const (Go.Value.int Go.IntKind.i64 60)) 3, type := 4, pos := "l15_stack.go:11", after := #[{ on := 16, ground := Go.Ground.data }, { on := 11, ground := Go.Ground.guard }], guard := some (11, false) }) (v := ?_) rfl (by kernel_rfl) (by kernel_rfl) (by kernel_rfl) (fun _ _ _ h => h) (Or.inl ⟨by rfl, ?_⟩) (by assumption) ?_
                    rotate_left
                    · (intro w hSw; (try dsimp only at hSw); go_simp; try with_reducible rfl)
                    try simp only [Act.put, List.setIfInBounds_toArray, List.set_cons_zero, List.set_cons_succ]
                    refine wpAnyH_take (i := 18) (oi := { dst := some 57, op := Go.Op.pick (Go.Operand.tmp 50) (Go.Operand.const (Go.Value.bool true)) (Go.Operand.tmp 56), type := 4, pos := "l15_stack.go:11", after := #[{ on := 11, ground := Go.Ground.data }, { on := 17, ground := Go.Ground.data }], guard := none }) (v := ?_) rfl (by kernel_rfl) (by kernel_rfl) (by kernel_rfl) (fun _ _ _ h => h) (Or.inl ⟨by rfl, ?_⟩) (by assumption) ?_
                    rotate_left
                    · (intro w hSw; (try dsimp only at hSw); go_simp; try with_reducible rfl)
                    try simp only [Act.put, List.setIfInBounds_toArray, List.set_cons_zero, List.set_cons_succ]
                    refine wpAnyH_done (by kernel_rfl) ?_ _
                    go_wp2_with fail
                    go_roundw
                    case rel => exact ⟨i + 1, by omega, by go_num, HN.out, fun _ => by omega, hb3.out, hx3.out⟩
                    case measure => simp [intOf]; omega
              · obtain rfl : i = r.length := by omega
                have HN := Lib.hid (HNx.out (by rcases Nat.eq_zero_or_pos r.length with h | h; · omega
                                                · exact H60.out h) (take_full (Nat.le_refl _) HAll.out))
                clear r2
                go_wp2_with fail
                go_roundw
                case rel => exact ⟨k + 1, by omega, by go_num, HN.out, hbl.out, hbx.out⟩
                case measure => simp [intOf]; omega
          · obtain rfl : k = n := by omega
            have HE := Lib.hid (HYes.out trivial Hz.out hRk.out)
            clear HLn
            go_wp2_with fail
            go_ret
            exact HK.out _ _ HE.out hbl.out
      · have HE := Lib.hid (HZr.out hz)
        have hz' : (0 : Int) < ((rwA ls 0).length : Int) := by omega
        clear hz q3 r1
        generalize (rwA ls 0).length = m at *
        go_wp2_with fail
        go_ret
        exact HK.out _ _ HE.out hb2.out
    · have HE := Lib.hid (HLen.out hnN)
      have hne : ((n : Int) != (N : Int)) = true := by rw [bne_iff_ne]; omega
      go_wp2_with fail
      go_ret
      exact HK.out _ _ HE.out hb2.out
  · have HG : Hid (∀ X, Calls Try.prog 40 #[.agg #[.int .i64 x, .int .i64 y]] X (Bl false X)) := fun X => gridS.gridOk_no x y X hk
    have HE := Lib.hid (HNo.out fun h => hk h.1)
    clear hi hl hn hk HNo
    go_enter Try.func32, Try.ntmps32
    go_wp2_with fail
    refine (HG.out _).mono ?_
    rintro e w1 ⟨rfl, hb⟩
    have hb1 := Lib.hid (below_call (HB.out _) hb)
    clear hb HG HB HX
    go_wp2_with fail
    go_ret
    exact HK.out _ _ HE.out.symm hb1.out

theorem od_far {x y : Int} {l : List Int} (h : 100 < l.length) : odB x y l = false := by
  unfold odB; rw [decide_eq_false (by omega)]; rfl
theorem od_bad {x y u : Int} {l : List Int} (hu : u ∈ l) (h : ¬ (0 ≤ u ∧ u < x * y)) : odB x y l = false := by
  unfold odB
  have : (l.any fun u => !decide (0 ≤ u ∧ u < x * y)) = true := List.any_eq_true.2 ⟨u, hu, by rw [decide_eq_false h]; rfl⟩
  rw [this]; simp
theorem od_good {x y : Int} {l : List Int} (h : ∀ u ∈ l, 0 ≤ u ∧ u < x * y) : odB x y l = decide (l.length ≤ 100) := by
  unfold odB
  have : (l.any fun u => !decide (0 ≤ u ∧ u < x * y)) = false := by
    rw [← Bool.not_eq_true, List.any_eq_true]
    rintro ⟨u, hu, hd⟩
    rw [decide_eq_true (h u hu)] at hd
    cases hd
  rw [this]; simp

set_option maxRecDepth 100000 in
set_option maxHeartbeats 2000000 in
theorem order_any (x y : Int) (A : Option Addr) (n c : Nat) (l : List Int) (W : World) (hk : OkZ x y) (hn : l.length = n) (hm : n ≤ 1048576) (hi : IntsIn W W.heap.size A l) :
    Calls Try.prog 73 #[.agg #[.int .i64 x, .int .i64 y], .slice A n c] W (Bl (odB x y l) W) := by
  have HI := Lib.hid (fun X (hb : Below W.heap.size W X) => hi.below hb)
  have HB := Lib.hid (fun T => below_box W (.cells #[.int .i64 x, .int .i64 y] T))
  have HX := Lib.hid (fun T => box_new x y W T)
  have HK := @Lib.hid _ (fun w' v e b => @bl_mk v (odB x y l) W w' e b)
  have HC : Hid (∀ X, Calls Try.prog 11 #[.agg #[.int .i64 x, .int .i64 y]] X (Nm (x * y) X)) := fun X => gridS.countCells_yes x y X hk.1 hk.2.1 hk.2.2.1 hk.2.2.2
  have hN := (mul_bd x y hk.1 hk.2.1 hk.2.2.1 hk.2.2.2).1
  have HBad := Lib.hid (fun u (hu : u ∈ l) h => @od_bad x y u l hu h)
  have HGood := Lib.hid (@od_good x y l)
  have Hn := Lib.hid hn
  clear hi hn hk
  generalize odB x y l = b at *
  generalize x * y = N at *
  have q1 : IntKind.i64.wrap (N - 1) = N - 1 := IntWalk.i64_in _ (by omega)
  have HIn := Lib.hid (fun z X => in_b z 0 (N - 1) X)
  go_enter Try.func73, Try.ntmps73
  go_wp2_with fail
  go_loopw [5] (fun u5 wr => ∃ i : Nat, i ≤ n ∧ u5 = .int .i64 i ∧ (∀ u ∈ l.take i, 0 ≤ u ∧ u < N) ∧ Below W.heap.size W wr ∧ Box W.heap.size x y wr) (fun u5 _ => n - (intOf u5).toNat)
  case atStart => exact ⟨0, Nat.zero_le _, rfl, by simp, HB.out _, HX.out _⟩
  case round =>
    clear HB HX
    obtain ⟨i, hin, rfl, hall, hb0, hx0⟩ := hrel
    have HAll := Lib.hid hall
    have hbl := Lib.hid hb0
    have hbx := Lib.hid hx0
    obtain ⟨c0, c1⟩ := hx0.1
    clear hall hb0 hx0
    have hi0 : (0 : Int) ≤ (i : Int) := Int.natCast_nonneg _
    by_cases hi1 : i < n
    · have hi2 : (i : Int) < (n : Int) := by omega
      obtain ⟨d, hd⟩ : ∃ d, l[i]? = some d := ⟨l[i]'(by have := Hn.out; omega), List.getElem?_eq_getElem (by have := Hn.out; omega)⟩
      have hmem := List.mem_of_getElem? hd
      obtain ⟨ad, rfl, hab, e3⟩ := ints_cell (HI.out _ hbl.out) hd
      have HNd := Lib.hid (fun X => HIn.out d X)
      by_cases hdr : 0 ≤ d ∧ d < N
      · have HN := Lib.hid (take_next (P := fun u => 0 ≤ u ∧ u < N) hd HAll.out hdr)
        rw [show inB d 0 (N - 1) = true from decide_eq_true (by omega)] at HNd
        clear hd hmem hdr
        go_wp2_with fail
        try simp only [List.cons_append, List.nil_append, List.append_eq]
        refine wp_region_held_drew (S := (fun w' => w'.cell? (ad.add i) = some (.int .i64 d) ∧ w'.cell? ⟨W.heap.size, 0, none⟩ = some (.int .i64 x) ∧ w'.cell? ⟨W.heap.size, 1, none⟩ = some (.int .i64 y))) (by kernel_rfl) ?_ (fun hHeld0 => ?_)
        · (try dsimp only); go_keep
        refine wpAnyH_take (i := 0) (oi := { dst := some 12, op := Go.Op.move (Go.Operand.tmp 1), type := 32, pos := "l15_stack.go:62", after := #[], guard := none }) (v := ?_) rfl (by kernel_rfl) (by kernel_rfl) (by kernel_rfl) (fun _ _ _ h => h) (Or.inl ⟨by rfl, ?_⟩) (by assumption) ?_
        rotate_left
        · (intro w hSw; (try dsimp only at hSw); go_simp; try with_reducible rfl)
        try simp only [Act.put, List.setIfInBounds_toArray, List.set_cons_zero, List.set_cons_succ]
        refine wpAnyH_take (i := 1) (oi := { dst := some 13, op := Go.Op.move (Go.Operand.tmp 5), type := 3, pos := "l15_stack.go:62", after := #[], guard := none }) (v := ?_) rfl (by kernel_rfl) (by kernel_rfl) (by kernel_rfl) (fun _ _ _ h => h) (Or.inl ⟨by rfl, ?_⟩) (by assumption) ?_
        rotate_left
        · (intro w hSw; (try dsimp only at hSw); go_simp; try with_reducible rfl)
        try simp only [Act.put, List.setIfInBounds_toArray, List.set_cons_zero, List.set_cons_succ]
        refine wpAnyH_take (i := 2) (oi := { dst := some 14, op := Go.Op.indexAddr 32 (Go.Operand.tmp 12) (Go.Operand.tmp 13), type := 0, pos := "l15_stack.go:62", after := #[{ on := 0, ground := Go.Ground.data }, { on := 1, ground := Go.Ground.data }], guard := none }) (v := ?_) rfl (by kernel_rfl) (by kernel_rfl) (by kernel_rfl) (fun _ _ _ h => h) (Or.inl ⟨by rfl, ?_⟩) (by assumption) ?_
        rotate_left
        · (intro w hSw; (try dsimp only at hSw); go_simp; try with_reducible rfl)
        try simp only [Act.put, List.setIfInBounds_toArray, List.set_cons_zero, List.set_cons_succ]
        refine wpAnyH_take (i := 3) (oi := { dst := some 15, op := Go.Op.load 3 (Go.Operand.tmp 14), type := 3, pos := "l15_stack.go:62", after := #[{ on := 2, ground := Go.Ground.data }], guard := none }) (v := ?_) rfl (by kernel_rfl) (by kernel_rfl) (by kernel_rfl) (fun _ _ _ h => h) (Or.inl ⟨by rfl, ?_⟩) (by assumption) ?_
        rotate_left
        · (intro w hSw; (try dsimp only at hSw); go_simp; try with_reducible rfl)
        try simp only [Act.put, List.setIfInBounds_toArray, List.set_cons_zero, List.set_cons_succ]
        refine wpAnyH_take (i := 4) (oi := { dst := some 16, op := Go.Op.load 25 (Go.Operand.tmp 2), type := 25, pos := "l15_stack.go:62", after := #[], guard := none }) (v := ?_) rfl (by kernel_rfl) (by kernel_rfl) (by kernel_rfl) (fun _ _ _ h => h) (Or.inl ⟨by rfl, ?_⟩) (by assumption) ?_
        rotate_left
        · (intro w hSw; (try dsimp only at hSw); go_simp; try with_reducible rfl)
        try simp only [Act.put, List.setIfInBounds_toArray, List.set_cons_zero, List.set_cons_succ]
        refine wpAnyH_ready (rs := [5]) (by kernel_rfl) (by simp) ?_
        refine AllReadyH.cons (o := { dst := some 17, op := Go.Op.call { callee := Go.Callee.value (Go.Operand.func 11), args := #[Go.Operand.tmp 16], argTypes := #[25] }, type := 3, pos := "l15_stack.go:62", after := #[{ on := 4, ground := Go.Ground.data }], guard := none }) rfl (fun K5 hK5 => ?_) AllReadyH.nil
        go_simp
        (refine (HC.out _).mono ?_; rintro e v1 ⟨rfl, hb⟩; have hb3 := Lib.hid (below_call (below_draws hbl.out 1) hb); have hx3 := Lib.hid ((hbx.out.draws 1).call hb); have f3 := cell_keep hb e3; clear hb; obtain ⟨d0, d1⟩ := hx3.out.1)
        go_wp2_with fail
        refine hK5.out _ _ ?_ (fun hHeld1 => ?_)
        · (try dsimp only); go_keep
        clear hK5 K5 hHeld0
        try simp only [Act.put, List.setIfInBounds_toArray, List.set_cons_zero, List.set_cons_succ]
        refine wpAnyH_take (i := 6) (oi := { dst := some 18, op := Go.Op.binOp Go.BinOp.sub 3 (Go.Operand.tmp 17) (Go.Operand.const (Go.Value.int Go.IntKind.i64 1)) 3, type := 3, pos := "l15_stack.go:62", after := #[{ on := 5, ground := Go.Ground.data }], guard := none }) (v := ?_) rfl (by kernel_rfl) (by kernel_rfl) (by kernel_rfl) (fun _ _ _ h => h) (Or.inl ⟨by rfl, ?_⟩) (by assumption) ?_
        rotate_left
        · (intro w hSw; (try dsimp only at hSw); go_simp; try with_reducible rfl)
        try simp only [Act.put, List.setIfInBounds_toArray, List.set_cons_zero, List.set_cons_succ]
        refine wpAnyH_ready (rs := [7]) (by kernel_rfl) (by simp) ?_
        refine AllReadyH.cons (o := { dst := some 19, op := Go.Op.call { callee := Go.Callee.value (Go.Operand.func 76), args := #[Go.Operand.tmp 15, Go.Operand.const (Go.Value.int Go.IntKind.i64 0), Go.Operand.tmp 18], argTypes := #[3, 3, 3] }, type := 4, pos := "l15_stack.go:62", after := #[{ on := 3, ground := Go.Ground.data }, { on := 6, ground := Go.Ground.data }, { on := 5, ground := Go.Ground.chain }], guard := none }) rfl (fun K7 hK7 => ?_) AllReadyH.nil
        go_simp
        ((try simp only [q1]); refine (HNd.out _).mono ?_; rintro e v2 ⟨rfl, rfl⟩)
        go_wp2_with fail
        refine hK7.out _ _ ?_ (fun hHeld2 => ?_)
        · (try dsimp only); go_keep
        clear hK7 K7 hHeld1
        try simp only [Act.put, List.setIfInBounds_toArray, List.set_cons_zero, List.set_cons_succ]
        refine wpAnyH_take (i := 8) (oi := { dst := some 20, op := Go.Op.unOp Go.UnOp.not 4 (Go.Operand.tmp 19), type := 4, pos := "l15_stack.go:62", after := #[{ on := 7, ground := Go.Ground.data }], guard := none }) (v := ?_) rfl (by kernel_rfl) (by kernel_rfl) (by kernel_rfl) (fun _ _ _ h => h) (Or.inl ⟨by rfl, ?_⟩) (by assumption) ?_
        rotate_left
        · (intro w hSw; (try dsimp only at hSw); go_simp; try with_reducible rfl)
        try simp only [Act.put, List.setIfInBounds_toArray, List.set_cons_zero, List.set_cons_succ]
        refine wpAnyH_done (by kernel_rfl) ?_ _
        all_goals
          go_wp2_with fail
          go_roundw
          case rel => exact ⟨i + 1, by omega, by go_num, HN.out, hb3.out, hx3.out⟩
          case measure => simp [intOf]; omega
      · have HE := Lib.hid (HBad.out d hmem hdr)
        rw [show inB d 0 (N - 1) = false from decide_eq_false (by omega)] at HNd
        clear hd hmem hdr
        go_wp2_with fail
        try simp only [List.cons_append, List.nil_append, List.append_eq]
        refine wp_region_held_drew (S := (fun w' => w'.cell? (ad.add i) = some (.int .i64 d) ∧ w'.cell? ⟨W.heap.size, 0, none⟩ = some (.int .i64 x) ∧ w'.cell? ⟨W.heap.size, 1, none⟩ = some (.int .i64 y))) (by kernel_rfl) ?_ (fun hHeld0 => ?_)
        · (try dsimp only); go_keep
        refine wpAnyH_take (i := 0) (oi := { dst := some 12, op := Go.Op.move (Go.Operand.tmp 1), type := 32, pos := "l15_stack.go:62", after := #[], guard := none }) (v := ?_) rfl (by kernel_rfl) (by kernel_rfl) (by kernel_rfl) (fun _ _ _ h => h) (Or.inl ⟨by rfl, ?_⟩) (by assumption) ?_
        rotate_left
        · (intro w hSw; (try dsimp only at hSw); go_simp; try with_reducible rfl)
        try simp only [Act.put, List.setIfInBounds_toArray, List.set_cons_zero, List.set_cons_succ]
        refine wpAnyH_take (i := 1) (oi := { dst := some 13, op := Go.Op.move (Go.Operand.tmp 5), type := 3, pos := "l15_stack.go:62", after := #[], guard := none }) (v := ?_) rfl (by kernel_rfl) (by kernel_rfl) (by kernel_rfl) (fun _ _ _ h => h) (Or.inl ⟨by rfl, ?_⟩) (by assumption) ?_
        rotate_left
        · (intro w hSw; (try dsimp only at hSw); go_simp; try with_reducible rfl)
        try simp only [Act.put, List.setIfInBounds_toArray, List.set_cons_zero, List.set_cons_succ]
        refine wpAnyH_take (i := 2) (oi := { dst := some 14, op := Go.Op.indexAddr 32 (Go.Operand.tmp 12) (Go.Operand.tmp 13), type := 0, pos := "l15_stack.go:62", after := #[{ on := 0, ground := Go.Ground.data }, { on := 1, ground := Go.Ground.data }], guard := none }) (v := ?_) rfl (by kernel_rfl) (by kernel_rfl) (by kernel_rfl) (fun _ _ _ h => h) (Or.inl ⟨by rfl, ?_⟩) (by assumption) ?_
        rotate_left
        · (intro w hSw; (try dsimp only at hSw); go_simp; try with_reducible rfl)
        try simp only [Act.put, List.setIfInBounds_toArray, List.set_cons_zero, List.set_cons_succ]
        refine wpAnyH_take (i := 3) (oi := { dst := some 15, op := Go.Op.load 3 (Go.Operand.tmp 14), type := 3, pos := "l15_stack.go:62", after := #[{ on := 2, ground := Go.Ground.data }], guard := none }) (v := ?_) rfl (by kernel_rfl) (by kernel_rfl) (by kernel_rfl) (fun _ _ _ h => h) (Or.inl ⟨by rfl, ?_⟩) (by assumption) ?_
        rotate_left
        · (intro w hSw; (try dsimp only at hSw); go_simp; try with_reducible rfl)
        try simp only [Act.put, List.setIfInBounds_toArray, List.set_cons_zero, List.set_cons_succ]
        refine wpAnyH_take (i := 4) (oi := { dst := some 16, op := Go.Op.load 25 (Go.Operand.tmp 2), type := 25, pos := "l15_stack.go:62", after := #[], guard := none }) (v := ?_) rfl (by kernel_rfl) (by kernel_rfl) (by kernel_rfl) (fun _ _ _ h => h) (Or.inl ⟨by rfl, ?_⟩) (by assumption) ?_
        rotate_left
        · (intro w hSw; (try dsimp only at hSw); go_simp; try with_reducible rfl)
        try simp only [Act.put, List.setIfInBounds_toArray, List.set_cons_zero, List.set_cons_succ]
        refine wpAnyH_ready (rs := [5]) (by kernel_rfl) (by simp) ?_
        refine AllReadyH.cons (o := { dst := some 17, op := Go.Op.call { callee := Go.Callee.value (Go.Operand.func 11), args := #[Go.Operand.tmp 16], argTypes := #[25] }, type := 3, pos := "l15_stack.go:62", after := #[{ on := 4, ground := Go.Ground.data }], guard := none }) rfl (fun K5 hK5 => ?_) AllReadyH.nil
        go_simp
        (refine (HC.out _).mono ?_; rintro e v1 ⟨rfl, hb⟩; have hb3 := Lib.hid (below_call (below_draws hbl.out 1) hb); have hx3 := Lib.hid ((hbx.out.draws 1).call hb); have f3 := cell_keep hb e3; clear hb; obtain ⟨d0, d1⟩ := hx3.out.1)
        go_wp2_with fail
        refine hK5.out _ _ ?_ (fun hHeld1 => ?_)
        · (try dsimp only); go_keep
        clear hK5 K5 hHeld0
        try simp only [Act.put, List.setIfInBounds_toArray, List.set_cons_zero, List.set_cons_succ]
        refine wpAnyH_take (i := 6) (oi := { dst := some 18, op := Go.Op.binOp Go.BinOp.sub 3 (Go.Operand.tmp 17) (Go.Operand.const (Go.Value.int Go.IntKind.i64 1)) 3, type := 3, pos := "l15_stack.go:62", after := #[{ on := 5, ground := Go.Ground.data }], guard := none }) (v := ?_) rfl (by kernel_rfl) (by kernel_rfl) (by kernel_rfl) (fun _ _ _ h => h) (Or.inl ⟨by rfl, ?_⟩) (by assumption) ?_
        rotate_left
        · (intro w hSw; (try dsimp only at hSw); go_simp; try with_reducible rfl)
        try simp only [Act.put, List.setIfInBounds_toArray, List.set_cons_zero, List.set_cons_succ]
        refine wpAnyH_ready (rs := [7]) (by kernel_rfl) (by simp) ?_
        refine AllReadyH.cons (o := { dst := some 19, op := Go.Op.call { callee := Go.Callee.value (Go.Operand.func 76), args := #[Go.Operand.tmp 15, Go.Operand.const (Go.Value.int Go.IntKind.i64 0), Go.Operand.tmp 18], argTypes := #[3, 3, 3] }, type := 4, pos := "l15_stack.go:62", after := #[{ on := 3, ground := Go.Ground.data }, { on := 6, ground := Go.Ground.data }, { on := 5, ground := Go.Ground.chain }], guard := none }) rfl (fun K7 hK7 => ?_) AllReadyH.nil
        go_simp
        ((try simp only [q1]); refine (HNd.out _).mono ?_; rintro e v2 ⟨rfl, rfl⟩)
        go_wp2_with fail
        refine hK7.out _ _ ?_ (fun hHeld2 => ?_)
        · (try dsimp only); go_keep
        clear hK7 K7 hHeld1
        try simp only [Act.put, List.setIfInBounds_toArray, List.set_cons_zero, List.set_cons_succ]
        refine wpAnyH_take (i := 8) (oi := { dst := some 20, op := Go.Op.unOp Go.UnOp.not 4 (Go.Operand.tmp 19), type := 4, pos := "l15_stack.go:62", after := #[{ on := 7, ground := Go.Ground.data }], guard := none }) (v := ?_) rfl (by kernel_rfl) (by kernel_rfl) (by kernel_rfl) (fun _ _ _ h => h) (Or.inl ⟨by rfl, ?_⟩) (by assumption) ?_
        rotate_left
        · (intro w hSw; (try dsimp only at hSw); go_simp; try with_reducible rfl)
        try simp only [Act.put, List.setIfInBounds_toArray, List.set_cons_zero, List.set_cons_succ]
        refine wpAnyH_done (by kernel_rfl) ?_ _
        all_goals
          go_wp2_with fail
          go_ret
          exact HK.out _ _ HE.out.symm hb3.out
    · obtain rfl : i = n := by omega
      have HE := Lib.hid (HGood.out (take_full (by have := Hn.out; omega) HAll.out))
      rw [Hn.out] at HE
      by_cases h100 : i ≤ 100
      · have h1 : (i : Int) ≤ 100 := by omega
        rw [decide_eq_true h100] at HE
        go_wp2_with fail
        go_ret
        exact HK.out _ _ HE.out.symm hbl.out
      · have h1 : ¬ (i : Int) ≤ 100 := by omega
        rw [decide_eq_false h100] at HE
        go_wp2_with fail
        go_ret
        exact HK.out _ _ HE.out.symm hbl.out
end Go.Proofs.Ytcoikcnijaniaaa.popM
