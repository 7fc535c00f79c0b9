/- The contracts of slices.Repeat at one int and of the program's way row by row. -/
import Derived.Test.YtgocbnnhhpmndaaEntO
import Derived.Test.YtgocbnnhhpmndaaPrgG
import Derived.Deep.RegionLaw
import Derived.Deep.AppendLies
import Derived.Laws.CopyOwn
import Derived.Maps.AppendAt
namespace Go.Proofs.Ytgocbnnhhpmndaa.entI
open Go.ChangeShapes Go.WideShapes Go.ChangeAt Go.RowKit
open draw gridP gridC gridE bitP mazeP mazeC mazeM mazeR intsP reachP reachM reachN reachD intA listK wayP ersP ersO entP entO
set_option linter.unusedVariables false

theorem wpList_app {P : Program} {ops : Array Oper} {rest : List Oper} {o : Oper} {a : Act} {w : World} {Q : Exit → Act → World → Prop}
    (hg : o.guard = none) (s x : Operand) (t : TypeId) (hop : o.op = Op.call { callee := Callee.builtin Builtin.append, args := #[s, x], argTypes := #[t, t] })
    (base : Nat) (e : TypeId) (i : TypeInfo) (z : Value) (size bytes : Nat) (h1 : P.underlying t = some (.slice e)) (h2 : P.info? e = some i) (h3 : i.zero = some z) (h4 : i.size = size) (h5 : i.bytes = bytes) (h6 : z.cells.size = size) (h7 : 0 < size)
    (v : Value) (n : Nat) (xs : List Value) (hs : a.eval s = v) (hown : w.ownsRow base e size v n xs)
    (ad : Addr) (m c : Nat) (news : List Value) (hx : a.eval x = .slice (some ad) m c) (hn : news.length = m * size) (hc : ∀ j u, news[j]? = some u → w.cell? (ad.add j) = some u) (h1c : ∀ u ∈ news, u.oneCell' = true)
    (N : Nat) (ys : List Value) (hN : n + m = N) (hy : xs ++ news = ys) (b1 : N ≤ maxLen) (b2 : N * bytes ≤ 140737488355328) (hb : base ≤ w.heap.size)
    (hK : ∀ A' c' w', w'.ownsRow base e size (.slice A' N c') N ys → w.grownBy w' v.ownBlock → wpList P ops Q rest (a.put o.dst (.slice A' N c')) w') : wpList P ops Q (o :: rest) a w := by
  subst hN hy
  obtain ⟨v', w', hrun, r1, r2, -, -⟩ := run_append_own_at (P := P) w base t o.type e i z size bytes h1 h2 h3 h4 h5 h6 h7 v n xs hown ad m c news hn hc h1c b1 b2 hb
  obtain ⟨A', c', rfl⟩ := own_form r1
  refine wpList_plain hg fun K hKK => ?_
  unfold Oper.wp
  simp [execOp, hop, resolve, invoke, builtin, hs, hx, hrun, Result.andThen]
  exact hKK _ _ (hK A' c' w' r1 r2)

/-! ### a product of two words -/
theorem mul64_any (q : Nat) (hq : q ≤ 3) (W : World) : Calls Try.prog 87 #[.int .u64 1, .int .u64 (q : Int)] W fun e w' => e = .returned (.tuple #[.int .u64 0, .int .u64 (q : Int)]) ∧ W = w' := by
  have : q = 0 ∨ q = 1 ∨ q = 2 ∨ q = 3 := by omega
  rcases this with rfl | rfl | rfl | rfl
  all_goals
    go_enter Try.func87, Try.ntmps87
    go_wp2_with fail
    go_ret2
    exact ⟨rfl, rfl⟩
theorem mul_any (q : Nat) (hq : q ≤ 3) (W : World) : Calls Try.prog 76 #[.int .u64 1, .int .u64 (q : Int)] W fun e w' => e = .returned (.tuple #[.int .u64 0, .int .u64 (q : Int)]) ∧ W = w' := by
  have HM := Lib.hid (mul64_any q hq W)
  go_enter Try.func76, Try.ntmps76
  go_wp2_with fail
  refine HM.out.mono ?_
  rintro e w' ⟨rfl, rfl⟩
  go_wp2_with fail
  go_ret2
  exact ⟨rfl, rfl⟩

/-! ### one int, several times -/
/-- While the row is filled. -/
def rpL (d : Int) (q m : Nat) : List Int := List.replicate m d ++ List.replicate (q - m) 0
theorem rp_len (d : Int) {q m : Nat} (h : m ≤ q) : (rpL d q m).length = q := by unfold rpL; simp; omega
theorem rp_zero (d : Int) (q : Nat) : rpL d q 0 = List.replicate q 0 := by unfold rpL; simp
theorem rp_all (d : Int) (q : Nat) : rpL d q q = List.replicate q d := by unfold rpL; simp
theorem rp_next (d : Int) {q m : Nat} (h : m < q) : splice (icells (rpL d q m)) m (icells [d]) = icells (rpL d q (m + 1)) := by
  have e1 : (rpL d q m).take m = List.replicate m d := by unfold rpL; rw [List.take_append_of_le_length (by simp)]; simp
  have e2 : (rpL d q m).drop (m + 1) = List.replicate (q - (m + 1)) 0 := by
    unfold rpL
    rw [List.drop_append]
    simp
    omega
  unfold splice icells
  rw [← List.map_take, List.length_map, List.length_singleton, ← List.map_drop, ← List.map_append, ← List.map_append, e1, e2]
  congr 1
  unfold rpL
  rw [List.replicate_succ', List.append_assoc]
theorem rp_first (d : Int) {q m : Nat} (h : 1 ≤ m) : (rpL d q m)[0]? = some d := by
  obtain ⟨k, rfl⟩ : ∃ k, m = k + 1 := ⟨m - 1, by omega⟩
  unfold rpL; rw [List.replicate_succ]; rfl
/-- What stands while the row is filled. -/
def RP (W : World) (d : Int) (q m : Nat) (X : World) : Prop := Below W.heap.size W X ∧ X.heap[W.heap.size]? = some (.cells (icells (rpL d q m)).toArray 3 (0, 0))
theorem RP.cell {W X : World} {d : Int} {q m : Nat} (h : RP W d q m X) (hm : 1 ≤ m) : X.cell? ⟨W.heap.size, 0, none⟩ = some (.int .i64 d) := by
  obtain ⟨-, h⟩ := h
  have := rp_first d (q := q) hm
  unfold World.cell?
  simp [h, icells, this]
theorem RP.drew {W X : World} {d : Int} {q m : Nat} (h : RP W d q m X) : RP W d q m X.drew := ⟨h.1.trans ⟨rfl, rfl, rfl, Nat.le_refl _, fun _ _ => rfl⟩, h.2⟩
/-- A call answers a number several times. -/
def RepR (d : Int) (q : Nat) (w : World) (e : Ending) (w' : World) : Prop := ∃ h c, e = .returned (.slice (some ⟨h, 0, none⟩) q c) ∧ w'.ownsRow w.heap.size 3 1 (.slice (some ⟨h, 0, none⟩) q c) q (icells (List.replicate q d)) ∧ Below w.heap.size w w'
theorem rep_mk {d : Int} {q : Nat} {W X : World} (hq : q ≤ 3) (h : RP W d q q X) : RepR d q W (.returned (.slice (some ⟨W.heap.size, 0, none⟩) q q)) X := by
  refine ⟨_, _, rfl, ?_, h.1⟩
  have h2 := h.2
  rw [rp_all] at h2
  exact ⟨by simp [icells], .inr ⟨W.heap.size, q, _, rfl, Nat.le_refl _, h2, Nat.le_refl _, by unfold maxLen; omega, by simp [icells], by rw [List.toList_toArray, List.take_of_length_le (by simp [icells])]⟩⟩

set_option maxRecDepth 100000 in
set_option maxHeartbeats 1000000 in
theorem repeat_any (ad : Addr) (c q : Nat) (d : Int) (hq : q ≤ 3) (W : World) (hb : ad.block < W.heap.size) (hc : W.cell? (ad.add 0) = some (.int .i64 d)) :
    Calls Try.prog 48 #[.slice (some ad) 1 c, .int .i64 (q : Int)] W (RepR d q W) := by
  obtain ⟨i0, hi0, hz0, hz1, hz2⟩ := info_parts info_int
  have hsz : (Try.prog.info? 3).map (·.size) = some 1 := by rw [hi0]; simp [hz1]
  have HM := Lib.hid (fun X => mul_any q hq X)
  have hmk := run_make (P := Try.prog) W 26 3 i0 (.int .i64 0) Try.underlying26 hi0 hz0 .i64 .i64 (q : Int) (q : Int) (by omega) (by omega) (by rw [hz2]; omega) (by omega)
  rw [hz1] at hmk
  simp only [Int.toNat_natCast, Nat.mul_one] at hmk
  have HB1 := Lib.hid (below_box W (.cells (madeCells #[Value.int .i64 0] q) 3))
  have HG1 : Hid ((W.alloc (.cells (madeCells #[Value.int .i64 0] q) 3)).heap[W.heap.size]? = some (.cells (icells (rpL d q 0)).toArray 3 (0, 0))) := Lib.hid (by
    rw [heap_alloc_new, rp_zero, ← made_zero, Array.toArray_toList]; rfl)
  have HCell : Hid ((W.alloc (.cells (madeCells #[Value.int .i64 0] q) 3)).cell? (ad.add 0) = some (.int .i64 d)) := Lib.hid ((HB1.out.cell (by rw [block_of_add]; exact hb)).trans hc)
  have HE := Lib.hid (fun X h => @rep_mk d q W X hq h)
  have hu1 : IntKind.u64.wrap (q : Int) = (q : Int) := IntWalk.u64_in _ (by omega)
  have hu2 : IntKind.i64.wrap (q : Int) = (q : Int) := IntWalk.i64_in _ (by omega)
  have hq0 : (0 : Int) ≤ (q : Int) := Int.natCast_nonneg _
  have hq1 : decide ((9223372036854775807 : Int) < (q : Int)) = false := decide_eq_false (by omega)
  have Hq := Lib.hid hq
  have HOne : Hid (∀ (X : World) (p : Addr) j v, X.cell? (p.add 0) = some (.int .i64 d) → (icells [d])[j]? = some v → X.cell? (p.add j) = some v) := Lib.hid (fun X p j v h hv => by
    rcases j with _ | j
    · simp [icells] at hv; rw [← hv]; exact h
    · simp [icells] at hv)
  rcases Nat.eq_zero_or_pos q with hz | hz
  · subst hz
    push_cast at hmk
    go_enter Try.func48, Try.ntmps48
    go_wp2_with fail
    refine (HM.out _).mono ?_
    rintro e w1 ⟨rfl, rfl⟩
    go_wp2_with (with_reducible refine wpList_copy_splice (o := ⟨some 33, _, _, _, _, _⟩) rfl (.tmp 31) (.tmp 32) 26 26 rfl 3 Try.underlying26 hsz (some ⟨W.heap.size, 0, none⟩) (some ad) 0 0 1 c rfl rfl W.heap.size 0 (icells (rpL d 0 0)) 3 HG1.out [] rfl (fun h => absurd h (by decide)) (by simp) (by simp) W.heap.size W HB1.out (Nat.le_refl _) ?_; intro w2 HG2 hB2)
    go_loopw [8] (fun u8 wr => u8 = .int .i64 0 ∧ RP W d 0 0 wr) (fun _ _ => 0)
    case atStart => exact ⟨rfl, hB2, by have := HG2.out; simpa [splice] using this⟩
    case round =>
      clear HG2 hB2
      obtain ⟨rfl, hrp⟩ := hrel
      have Hrp := Lib.hid hrp
      clear hrp
      go_wp2_with fail
      go_ret
      exact HE.out _ Hrp.out
  · have HCn : Hid ((icells [d]).length = Nat.min 1 q) := Lib.hid (by rw [icells_length]; exact (Nat.min_eq_left hz).symm)
    have HFit : Hid (0 + (icells [d]).length ≤ (icells (rpL d q 0)).length) := Lib.hid (by rw [icells_length, icells_length, rp_len d (Nat.zero_le _)]; simp; omega)
    have HSp := Lib.hid (rp_next d hz)
    go_enter Try.func48, Try.ntmps48
    go_wp2_with fail
    refine (HM.out _).mono ?_
    rintro e w1 ⟨rfl, rfl⟩
    go_wp2_with (with_reducible refine wpList_copy_splice (o := ⟨some 33, _, _, _, _, _⟩) rfl (.tmp 31) (.tmp 32) 26 26 rfl 3 Try.underlying26 hsz (some ⟨W.heap.size, 0, none⟩) (some ad) q q 1 c rfl rfl W.heap.size 0 (icells (rpL d q 0)) 3 HG1.out (icells [d]) HCn.out (fun _ => ⟨rfl, ad, rfl, fun j v hv => HOne.out _ ad j v HCell.out hv⟩) HFit.out (oneCellI [d]) W.heap.size W HB1.out (Nat.le_refl _) ?_; intro w2 HG2 hB2)
    have Hrp1 : Hid (RP W d q 1 w2) := Lib.hid ⟨hB2, by have := HG2.out; rw [HSp.out] at this; exact this⟩
    clear HG2 hB2 HG1 HB1 HCell HCn HFit HSp hmk hb hc
    go_loopw [8] (fun u8 wr => ∃ m : Nat, 1 ≤ m ∧ m ≤ q ∧ u8 = .int .i64 (m : Int) ∧ RP W d q m wr) (fun u8 _ => q - (intOf u8).toNat)
    case atStart => exact ⟨1, Nat.le_refl _, hz, rfl, Hrp1.out⟩
    case round =>
      clear Hrp1
      obtain ⟨m, hm1, hmq, rfl, hrp⟩ := hrel
      have Hrp := Lib.hid hrp
      clear hrp
      by_cases hlt : m < q
      · have hi1 : (m : Int) < (q : Int) := by omega
        have hi2 : (0 : Int) ≤ (m : Int) := Int.natCast_nonneg _
        have hi3 : (m : Int) ≤ (q : Int) := by omega
        have hi4 : ¬ q = m := by omega
        have hw1 : IntKind.i64.wrap ((m : Int) + 1) = (m : Int) + 1 := IntWalk.i64_in _ (by omega)
        have HCn : Hid ((icells [d]).length = Nat.min m (q - m)) := Lib.hid (by
          rw [icells_length, List.length_singleton]
          have : m = 1 ∨ q - m = 1 := by omega
          rcases this with h | h
          · rw [h]; exact (Nat.min_eq_left (by omega)).symm
          · rw [h]; exact (Nat.min_eq_right (by omega)).symm)
        have HFit : Hid (m + (icells [d]).length ≤ (icells (rpL d q m)).length) := Lib.hid (by rw [icells_length, icells_length, rp_len d hmq]; simp; omega)
        have HSp := Lib.hid (rp_next d hlt)
        have HC0 := Lib.hid (Hrp.out.cell hm1)
        go_wp2_with fail
        go_region_law (refine step_copy_splice rfl (.tmp 41) (.tmp 44) 26 26 rfl 3 Try.underlying26 hsz (some ⟨W.heap.size, m, none⟩) (some ⟨W.heap.size, 0, none⟩) (q - m) (q - m) m q (by simp [Act.eval, Act.put]) (by simp [Act.eval, Act.put]) W.heap.size m (icells (rpL d q m)) 3 Hrp.out.drew.2 (icells [d]) HCn.out (fun _ => ⟨rfl, ⟨W.heap.size, 0, none⟩, rfl, fun j v hv => HOne.out _ _ j v HC0.out hv⟩) HFit.out (oneCellI [d]) W.heap.size W Hrp.out.drew.1 (Nat.le_refl _) ?_; intro w4 hg4 hb4)
        have Hrp4 : Hid (RP W d q (m + 1) w4) := Lib.hid ⟨hb4, by have := hg4.out; rw [HSp.out] at this; exact this⟩
        have hL1 : (((icells [d]).length : Nat) : Int) = 1 := by rw [icells_length]; rfl
        simp only [Act.put, hL1]
        go_simp
        go_wp2_with fail
        go_roundw
        case rel => exact ⟨.int .i64 ((m : Int) + 1), _, _, _, _, _, _, _, _, _, _, _, _, _, ⟨m + 1, by omega, by omega, by go_num, Hrp4.out⟩, rfl⟩
        case measure => (try simp [intOf]); omega
      · obtain rfl : m = q := by omega
        go_wp2_with fail
        go_ret
        exact HE.out _ Hrp.out
end Go.Proofs.Ytgocbnnhhpmndaa.entI
