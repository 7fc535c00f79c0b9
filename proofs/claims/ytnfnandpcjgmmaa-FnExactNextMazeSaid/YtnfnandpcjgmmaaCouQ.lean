/- The least cells of parts, the first matrix, the answers, the next selection of a set's bits: without the program. -/
import Derived.Test.YtnfnandpcjgmmaaCouP
import Derived.Test.YtnfnandpcjgmmaaCntH
namespace Go.Proofs.Ytnfnandpcjgmmaa.couQ
open Go.RowKit
open gridP gridQ bitP mazeP mazeQ reachP reachM reachN forest deadP detP trsP barP barQ trcP matP matX matR eucP cntP cntQ cntF cntH couP
open perfP (perfects cl_lp pt_pt)
set_option linter.unusedVariables false

/-! ### the least cell of a part -/
theorem rl_least (st : Nat → Nat → Int) (N a : Nat) : ∀ (n : Nat) (z : Int), (rlN st N a n)[0]? = some z → ∃ j : Nat, z = j ∧ j < n ∧ 0 ≤ dZ st N a j ∧ ∀ v, v < j → ¬ 0 ≤ dZ st N a v
  | 0, z, h => by simp [rlN] at h
  | n + 1, z, h => by
    unfold rlN at h
    split at h
    · rename_i hd
      by_cases he : rlN st N a n = []
      · rw [he] at h
        obtain rfl : (n : Int) = z := by simpa using h
        refine ⟨n, rfl, Nat.lt_succ_self n, hd, fun v hv h0 => ?_⟩
        have := (rlN_mem st N a n (v : Int)).2 ⟨v, rfl, hv, h0⟩
        rw [he] at this; cases this
      · rw [List.getElem?_append_left (List.length_pos_iff.2 he)] at h
        obtain ⟨j, e, hj, r⟩ := rl_least st N a n z h
        exact ⟨j, e, by omega, r⟩
    · obtain ⟨j, e, hj, r⟩ := rl_least st N a n z h
      exact ⟨j, e, by omega, r⟩
/-- The least cell that is reached. -/
def lsF (x y : Int) (c i : Nat) : Nat := ((rlN (stN x y c) (cN x y) i (cN x y)).headD 0).toNat
section
variable {x y : Int}
theorem ls_spec {c i : Nat} (hi : i < cN x y) : (rlN (stN x y c) (cN x y) i (cN x y))[0]? = some ((lsF x y c i : Nat) : Int) ∧ lsF x y c i < cN x y ∧ Cn x y c i (lsF x y c i) ∧ ∀ v, v < lsF x y c i → ¬ Cn x y c i v := by
  have hne : ∃ z, (rlN (stN x y c) (cN x y) i (cN x y))[0]? = some z := by
    have hm := (rlN_mem (stN x y c) (cN x y) i (cN x y) (i : Int)).2 ⟨i, rfl, hi, (cn_iff hi i).2 (cn_refl c i)⟩
    exact ⟨_, List.getElem?_eq_getElem (List.length_pos_of_mem hm)⟩
  obtain ⟨z, hz⟩ := hne
  obtain ⟨j, rfl, hj, h1, h2⟩ := rl_least _ _ _ _ _ hz
  have e : lsF x y c i = j := by
    unfold lsF
    cases h : rlN (stN x y c) (cN x y) i (cN x y) with
    | nil => rw [h] at hz; cases hz
    | cons a l =>
      rw [h] at hz
      obtain rfl : a = (j : Int) := by simpa using hz
      simp
  rw [e]
  exact ⟨hz, hj, (cn_iff hi j).1 h1, fun v hv h => h2 v hv ((cn_iff hi v).2 h)⟩
theorem ls_cn (c : Nat) {i j : Nat} (hi : i < cN x y) (hj : j < cN x y) : lsF x y c i = lsF x y c j ↔ Cn x y c i j := by
  obtain ⟨-, i1, i2, i3⟩ := ls_spec (x := x) (y := y) (c := c) hi
  obtain ⟨-, j1, j2, j3⟩ := ls_spec (x := x) (y := y) (c := c) hj
  constructor
  · intro e; rw [e] at i2; exact cn_trans i2 (cn_symm j2)
  · intro h
    rcases Nat.lt_trichotomy (lsF x y c i) (lsF x y c j) with h1 | h1 | h1
    · exact absurd (cn_trans (cn_symm h) i2) (j3 _ h1)
    · exact h1
    · exact absurd (cn_trans h j2) (i3 _ h1)
theorem ls_lb (c : Nat) : Lb (lsF x y c) (cN x y) := by
  refine ⟨fun i hi => ?_, fun i hi => ?_⟩
  · obtain ⟨-, -, -, i3⟩ := ls_spec (x := x) (y := y) (c := c) hi
    rcases Nat.lt_or_ge i (lsF x y c i) with h | h
    · exact absurd (cn_refl c i) (i3 i h)
    · exact h
  · obtain ⟨-, i1, i2, -⟩ := ls_spec (x := x) (y := y) (c := c) hi
    exact (ls_cn c i1 hi).2 (cn_symm i2)

/-! ### the first matrix, and the answers -/
theorem lp_start (hk : OkZ x y) {o : Nat} (ho : o < 2 ^ gN x y) (F : Nat → Nat) : Cm (gN x y) (aN x y) (bN x y) (opE o) F (cN x y) (cN x y) (lpZ x y o) := by
  obtain ⟨h1, h2⟩ := lp_len' hk ho
  refine cm_start h1 (fun l h => (h2 l h).1) (fun g hg => ?_) (fun g hg => ?_) fun i j hi hj => ?_
  · obtain ⟨e1, e2, -, -⟩ := ends_lt hk hg; omega
  · obtain ⟨e1, e2, -, -⟩ := ends_lt hk hg; exact e2
  · rw [← lp_mfn hk ho hi hj]
    have hil : i < (lpZ x y o).length := by omega
    have hli := List.getElem?_eq_getElem hil
    obtain ⟨q1, q2⟩ := h2 _ (List.getElem_mem hil)
    have hjl : j < ((lpZ x y o)[i]'hil).length := by omega
    have hz := List.getElem?_eq_getElem hjl
    have e : mfn (lpZ x y o) i j = ((lpZ x y o)[i]'hil)[j]'hjl := by
      unfold mfn
      simp [List.getD_eq_getElem?_getD, hli, hz]
    have := abS_mem (List.getElem_mem hjl)
    rw [← e] at this
    unfold wrap64; omega
theorem cm_rng {G : Nat} {u v : Nat → Nat} {E : Nat → Bool} {F : Nat → Nat} {N c : Nat} {ms : List (List Int)} (h : Cm G u v E F N c ms) : ∀ l ∈ ms, ∀ z ∈ l, -9223372036854775808 ≤ z ∧ z ≤ 9223372036854775807 := by
  intro l hl z hz
  obtain ⟨i, hi, rfl⟩ := List.mem_iff_getElem.1 hl
  obtain ⟨j, hj, rfl⟩ := List.mem_iff_getElem.1 hz
  have hr := h.row _ hl
  have hli := List.getElem?_eq_getElem hi
  have hzj := List.getElem?_eq_getElem hj
  have e : mfn ms i j = (ms[i]'hi)[j]'hj := by
    unfold mfn
    simp [List.getD_eq_getElem?_getD, hli, hzj]
  rw [← e, h.ent i j (by rw [← h.len]; exact hi) (by omega)]
  exact wrap_bd _
theorem er_rng {ms : List (List Int)} {k : Nat} (h : ∀ l ∈ ms, ∀ z ∈ l, -9223372036854775808 ≤ z ∧ z ≤ 9223372036854775807) : ∀ l ∈ (ms.eraseIdx k).map (fun l => l.eraseIdx k), ∀ z ∈ l, -9223372036854775808 ≤ z ∧ z ≤ 9223372036854775807 := by
  intro l hl z hz
  obtain ⟨m, hm, rfl⟩ := List.mem_map.1 hl
  exact h m (List.mem_of_mem_eraseIdx hm) z (List.mem_of_mem_eraseIdx hz)
theorem lp_zero (hk : OkZ x y) : lp x y 0 = 0 := no_cy hk (Nat.pow_pos (by decide)) fun k _ => by
  unfold cyB
  rw [decide_eq_false (by rw [bt_zero]; decide), Bool.false_and]
theorem ct_co (hk : OkZ x y) {o : Nat} (ho : o < 2 ^ gN x y) : coV (gN x y) (aN x y) (bN x y) (opE o) id (cN x y) = (ctN x y o : Int) :=
  co_trees (c := 0) (b := 2 ^ gN x y - 1 - o) hk (Nat.pow_pos (by decide)) (fun g _ h => by rw [bt_zero] at h; omega) (fun g hg => by
    rw [bt_compl ho hg]
    have := bt_le o g
    unfold opE
    rw [decide_eq_true_eq]
    omega) (lp_zero hk) (lb_id _) (parts_zero hk).2.1
theorem apart {c b : Nat} (hcb : c &&& b = 0) : ∀ g, bt c g = 1 → bt b g = 0 := fun g h => by
  have h1 := bt_test (c &&& b) g
  rw [Nat.testBit_and, bt_test, bt_test, decide_eq_true h, Bool.true_and, hcb, bt_zero] at h1
  have h2 := bt_le b g
  simp at h1
  omega
theorem cf_co (hk : OkZ x y) {c b : Nat} (hc : c < 2 ^ gN x y) (hb : b < 2 ^ gN x y) (hcb : c &&& b = 0) (hlp : lp x y c = 0) : coV (gN x y) (aN x y) (bN x y) (opE (2 ^ gN x y - 1 - b)) (lsF x y c) (cN x y) = (tcN x y c b : Int) :=
  co_trees hk hc (fun g _ h => apart hcb g h) (fun g hg => by
    unfold opE
    rw [decide_eq_true_eq, bt_compl hb hg]
    have := bt_le b g
    omega) hlp (ls_lb c) (fun i j hi hj => ls_cn c hi hj)
theorem cf_zero (hk : OkZ x y) {c : Nat} (b : Nat) (hc : c < 2 ^ gN x y) (hlp : lp x y c ≠ 0) : tcN x y c b = 0 := by
  apply Classical.byContradiction
  intro hne
  refine hlp (no_cy hk hc fun k hk' => ?_)
  cases h : cyB x y c k with
  | false => rfl
  | true => exact absurd (cy_zero hk hc hk' h) hne
theorem ip_is (hk : OkZ x y) {o : Nat} (ho : o < 2 ^ gN x y) : perfP.ipB x y o = true ↔ lp x y o = 0 ∧ pt x y o = 1 := by
  obtain ⟨-, -, -, h⟩ := perfects (okm hk ho)
  rw [h, Bool.and_eq_true, beq_iff_eq, cl_lp hk ho]
  unfold reachD.cnB
  rw [beq_iff_eq, pt_pt hk ho]
  omega
end

/-! ### selections of a set's bits -/
theorem and_half (a b : Nat) : (a &&& b) / 2 = a / 2 &&& b / 2 := by
  apply Nat.eq_of_testBit_eq; intro i
  rw [Nat.testBit_div_two, Nat.testBit_and, Nat.testBit_and, Nat.testBit_div_two, Nat.testBit_div_two]
theorem or_half (a b : Nat) : (a ||| b) / 2 = a / 2 ||| b / 2 := by
  apply Nat.eq_of_testBit_eq; intro i
  rw [Nat.testBit_div_two, Nat.testBit_or, Nat.testBit_or, Nat.testBit_div_two, Nat.testBit_div_two]
theorem and_low (a b : Nat) : (a &&& b) % 2 = if a % 2 = 1 ∧ b % 2 = 1 then 1 else 0 := by
  have h := Nat.testBit_and a b 0
  rw [Nat.testBit_zero, Nat.testBit_zero, Nat.testBit_zero] at h
  by_cases h1 : a % 2 = 1 ∧ b % 2 = 1
  · rw [if_pos h1]
    rw [decide_eq_true h1.1, decide_eq_true h1.2] at h
    exact of_decide_eq_true h
  · rw [if_neg h1]
    have : (decide (a % 2 = 1) && decide (b % 2 = 1)) = false := by
      rw [← Bool.decide_and, decide_eq_false h1]
    rw [this] at h
    have := of_decide_eq_false h
    omega
theorem or_low (a b : Nat) : (a ||| b) % 2 = if a % 2 = 1 ∨ b % 2 = 1 then 1 else 0 := by
  have h := Nat.testBit_or a b 0
  rw [Nat.testBit_zero, Nat.testBit_zero, Nat.testBit_zero] at h
  by_cases h1 : a % 2 = 1 ∨ b % 2 = 1
  · rw [if_pos h1]
    have : (decide (a % 2 = 1) || decide (b % 2 = 1)) = true := by
      rw [← Bool.decide_or, decide_eq_true h1]
    rw [this] at h
    exact of_decide_eq_true h
  · rw [if_neg h1]
    have : (decide (a % 2 = 1) || decide (b % 2 = 1)) = false := by
      rw [← Bool.decide_or, decide_eq_false h1]
    rw [this] at h
    have := of_decide_eq_false h
    omega
theorem sub_half {o M : Nat} (h : o &&& M = o) : o / 2 &&& M / 2 = o / 2 ∧ o % 2 ≤ M % 2 := by
  refine ⟨by rw [← and_half, h], ?_⟩
  have := and_low o M
  rw [h] at this
  split at this <;> omega
theorem sub_le {o M : Nat} (h : o &&& M = o) : o ≤ M := by rw [← h]; exact Nat.and_le_right
theorem sub_comp : ∀ (k M o : Nat), M < 2 ^ k → o &&& M = o → (2 ^ k - 1 - (M - o)) &&& M = o
  | 0, M, o, hM, h => by
    have := sub_le h
    have : M = 0 := by simpa using hM
    subst this
    simp; omega
  | k + 1, M, o, hM, h => by
    obtain ⟨h1, h2⟩ := sub_half h
    have h3 := sub_le h
    have h4 := sub_le h1
    rw [Nat.pow_succ] at hM
    have ih := sub_comp k (M / 2) (o / 2) (by omega) h1
    have e1 : (2 ^ (k + 1) - 1 - (M - o)) / 2 = 2 ^ k - 1 - (M / 2 - o / 2) := by rw [Nat.pow_succ]; omega
    have e2 : (2 ^ (k + 1) - 1 - (M - o)) % 2 = 1 - (M % 2 - o % 2) := by rw [Nat.pow_succ]; omega
    have e3 := and_half (2 ^ (k + 1) - 1 - (M - o)) M
    have e4 := and_low (2 ^ (k + 1) - 1 - (M - o)) M
    rw [e1, ih] at e3
    rw [e2] at e4
    split at e4 <;> omega
theorem sub_or : ∀ (k M o : Nat), M < 2 ^ k → o &&& M = o → o ||| (2 ^ k - 1 - M) = 2 ^ k - 1 - (M - o)
  | 0, M, o, hM, h => by
    have := sub_le h
    have : M = 0 := by simpa using hM
    subst this
    have : o = 0 := by omega
    subst this
    rfl
  | k + 1, M, o, hM, h => by
    obtain ⟨h1, h2⟩ := sub_half h
    have h3 := sub_le h
    have h4 := sub_le h1
    rw [Nat.pow_succ] at hM
    have ih := sub_or k (M / 2) (o / 2) (by omega) h1
    have e1 : (2 ^ (k + 1) - 1 - M) / 2 = 2 ^ k - 1 - M / 2 := by rw [Nat.pow_succ]; omega
    have e2 : (2 ^ (k + 1) - 1 - M) % 2 = 1 - M % 2 := by rw [Nat.pow_succ]; omega
    have e3 := or_half o (2 ^ (k + 1) - 1 - M)
    have e4 := or_low o (2 ^ (k + 1) - 1 - M)
    rw [e1, ih] at e3
    rw [e2] at e4
    have e5 : 2 ^ (k + 1) = 2 ^ k * 2 := by rw [Nat.pow_succ]
    split at e4 <;> omega
theorem sub_next : ∀ (k M o : Nat), M < 2 ^ k → o &&& M = o → o ≠ M → o < ((2 ^ k - (M - o)) &&& M) ∧ ∀ s, s &&& M = s → o < s → ((2 ^ k - (M - o)) &&& M) ≤ s
  | 0, M, o, hM, h, hne => by
    have := sub_le h
    have : M = 0 := by simpa using hM
    omega
  | k + 1, M, o, hM, h, hne => by
    obtain ⟨h1, h2⟩ := sub_half h
    have h3 := sub_le h
    have h4 := sub_le h1
    rw [Nat.pow_succ] at hM
    have e5 : 2 ^ (k + 1) = 2 ^ k * 2 := by rw [Nat.pow_succ]
    have e3 := and_half (2 ^ (k + 1) - (M - o)) M
    have e4 := and_low (2 ^ (k + 1) - (M - o)) M
    by_cases hb : M % 2 = o % 2
    · have hne2 : o / 2 ≠ M / 2 := fun e => hne (by omega)
      obtain ⟨i1, i2⟩ := sub_next k (M / 2) (o / 2) (by omega) h1 hne2
      have e1 : (2 ^ (k + 1) - (M - o)) / 2 = 2 ^ k - (M / 2 - o / 2) := by omega
      have e2 : (2 ^ (k + 1) - (M - o)) % 2 = 0 := by omega
      rw [e1] at e3
      rw [e2, if_neg (by omega)] at e4
      generalize (2 ^ k - (M / 2 - o / 2)) &&& M / 2 = r at *
      generalize (2 ^ (k + 1) - (M - o)) &&& M = R at *
      refine ⟨by omega, fun s hs hos => ?_⟩
      obtain ⟨s1, s2⟩ := sub_half hs
      have := i2 (s / 2) s1 (by omega)
      omega
    · have e1 : (2 ^ (k + 1) - (M - o)) / 2 = 2 ^ k - 1 - (M / 2 - o / 2) := by omega
      have e2 : (2 ^ (k + 1) - (M - o)) % 2 = 1 := by omega
      rw [e1, sub_comp k (M / 2) (o / 2) (by omega) h1] at e3
      rw [e2, if_pos (by omega)] at e4
      generalize (2 ^ (k + 1) - (M - o)) &&& M = R at *
      exact ⟨by omega, fun s hs hos => by omega⟩
/-- The next selection. -/
def nxN (o M : Nat) : Nat := (2 ^ 64 - (M - o)) &&& M
theorem nx_spec {o M : Nat} (hM : M < 2 ^ 24) (h : o &&& M = o) (hne : o ≠ M) : o < nxN o M ∧ nxN o M ≤ M ∧ nxN o M &&& M = nxN o M ∧ ∀ s, s &&& M = s → o < s → nxN o M ≤ s := by
  obtain ⟨h1, h2⟩ := sub_next 64 M o (Nat.lt_of_lt_of_le hM (by decide)) h hne
  refine ⟨h1, Nat.and_le_right, ?_, h2⟩
  unfold nxN
  rw [Nat.and_assoc, Nat.and_self]
theorem ofNeg (d : Nat) (h0 : 0 < d) (hd : d ≤ 9223372036854775808) : (BitVec.ofInt 64 (-(d : Int))).toNat = 18446744073709551616 - d := by
  rw [BitVec.toNat_ofInt]
  omega
theorem nx_int {o M : Nat} (hM : M < 2 ^ 24) (h : o &&& M = o) (hne : o ≠ M) : bits .and .i64 (IntKind.i64.wrap (bits .or .i64 (o : Int) (bits .xor .i64 (-1) (M : Int)) + 1)) (M : Int) = ((nxN o M : Nat) : Int) := by
  have h3 := sub_le h
  have hM' : M < 16777216 := hM
  have e1 : bits .xor .i64 (-1) (M : Int) = -((M + 1 : Nat) : Int) := by
    show IntKind.i64.wrap ((BitVec.ofInt 64 (-1) ^^^ BitVec.ofInt 64 (M : Int)).toNat : Int) = _
    have : BitVec.ofInt 64 (-1) ^^^ BitVec.ofInt 64 (M : Int) = ~~~ BitVec.ofInt 64 (M : Int) := by
      rw [show BitVec.ofInt 64 (-1) = BitVec.allOnes 64 from rfl, BitVec.allOnes_xor]
    rw [this, BitVec.toNat_not, ofInt64 M (by omega), IntKind.wrap_i64]
    omega
  have e2 : bits .or .i64 (o : Int) (-((M + 1 : Nat) : Int)) = -((M - o + 1 : Nat) : Int) := by
    show IntKind.i64.wrap ((BitVec.ofInt 64 (o : Int) ||| BitVec.ofInt 64 (-((M + 1 : Nat) : Int))).toNat : Int) = _
    rw [BitVec.toNat_or, ofInt64 o (by omega), ofNeg (M + 1) (by omega) (by omega), show 18446744073709551616 - (M + 1) = 2 ^ 64 - 1 - M by omega, sub_or 64 M o (by omega) h, IntKind.wrap_i64]
    omega
  have e3 : IntKind.i64.wrap (-((M - o + 1 : Nat) : Int) + 1) = -((M - o : Nat) : Int) := by rw [IntKind.wrap_i64]; omega
  have hx : (2 ^ 64 - (M - o)) &&& M ≤ M := Nat.and_le_right
  rw [e1, e2, e3]
  show IntKind.i64.wrap ((BitVec.ofInt 64 (-((M - o : Nat) : Int)) &&& BitVec.ofInt 64 (M : Int)).toNat : Int) = _
  rw [BitVec.toNat_and, ofInt64 M (by omega), ofNeg (M - o) (by omega) (by omega), show 18446744073709551616 - (M - o) = 2 ^ 64 - (M - o) by omega, IntKind.wrap_i64]
  unfold nxN
  omega

/-! ### the list of all perfect mazes within a maze, one selection after the other -/
section
variable {x y : Int}
/-- Those below o. -/
def trL (x y : Int) (M o : Nat) : List Nat := (List.range o).filter (tcB x y 0 (2 ^ gN x y - 1 - M))
theorem sub_bits {s M : Nat} (h : s &&& M = s) (g : Nat) (hb : bt s g = 1) : bt M g = 1 := by
  have h1 := bt_test s g
  rw [← h, Nat.testBit_and, h, bt_test, bt_test, decide_eq_true hb, Bool.true_and] at h1
  exact of_decide_eq_true h1
theorem bits_sub {s M G : Nat} (hs : s < 2 ^ G) (h : ∀ g, g < G → bt s g = 1 → bt M g = 1) : s &&& M = s := by
  apply Nat.eq_of_testBit_eq; intro g
  rw [Nat.testBit_and, bt_test, bt_test]
  by_cases hb : bt s g = 1
  · have hg : g < G := by
      apply Classical.byContradiction
      intro hn
      rw [bt_lt hs (by omega)] at hb; omega
    rw [decide_eq_true hb, decide_eq_true (h g hg hb)]; rfl
  · rw [decide_eq_false hb, Bool.false_and]
theorem tr_sub (hk : OkZ x y) {M s : Nat} (hM : M < 2 ^ gN x y) (hs : s < 2 ^ gN x y) (h : tcB x y 0 (2 ^ gN x y - 1 - M) s = true) : s &&& M = s := bits_sub hs ((tc_in hM).1 h).2.2
theorem tr_here (hk : OkZ x y) {M o : Nat} (hM : M < 2 ^ gN x y) (h : o &&& M = o) : tcB x y 0 (2 ^ gN x y - 1 - M) o = perfP.ipB x y o := by
  have ho : o < 2 ^ gN x y := Nat.lt_of_le_of_lt (sub_le h) hM
  rw [Bool.eq_iff_iff, tc_in hM, ip_is hk ho]
  exact ⟨fun h => ⟨h.1, h.2.1⟩, fun h' => ⟨h'.1, h'.2, fun g _ hb => sub_bits h g hb⟩⟩
theorem tr_add (hk : OkZ x y) {M o : Nat} (hM : M < 2 ^ gN x y) (h : o &&& M = o) : trL x y M (o + 1) = trL x y M o ++ if perfP.ipB x y o = true then [o] else [] := by
  unfold trL
  rw [List.range_succ, List.filter_append]
  congr 1
  have := tr_here hk hM h
  by_cases hp : perfP.ipB x y o = true
  · rw [if_pos hp, List.filter_cons_of_pos (by rw [this]; exact hp)]; rfl
  · rw [if_neg hp, List.filter_cons_of_neg (by rw [this]; exact hp)]; rfl
theorem filter_none {p : Nat → Bool} {a : Nat} : ∀ {n : Nat}, (∀ s, a ≤ s → s < a + n → p s = false) → (List.range (a + n)).filter p = (List.range a).filter p
  | 0, _ => rfl
  | n + 1, h => by
    rw [← Nat.add_assoc, List.range_succ, List.filter_append, filter_none (n := n) (fun s h1 h2 => h s h1 (by omega)), List.filter_cons_of_neg (by rw [h (a + n) (by omega) (by omega)]; decide)]
    simp
theorem tr_skip (hk : OkZ x y) {M o : Nat} (hM : M < 2 ^ gN x y) (hM2 : M < 2 ^ 24) (h : o &&& M = o) (hne : o ≠ M) : trL x y M (nxN o M) = trL x y M (o + 1) := by
  obtain ⟨h1, h2, h3, h4⟩ := nx_spec hM2 h hne
  unfold trL
  obtain ⟨n, hn⟩ : ∃ n, nxN o M = (o + 1) + n := ⟨nxN o M - (o + 1), by omega⟩
  rw [hn]
  refine filter_none fun s s1 s2 => ?_
  cases hp : tcB x y 0 (2 ^ gN x y - 1 - M) s with
  | false => rfl
  | true =>
    have := h4 s (tr_sub hk hM (by omega) hp) (by omega)
    omega
theorem tr_all (hk : OkZ x y) {M : Nat} (hM : M < 2 ^ gN x y) : trL x y M (M + 1) = (List.range (2 ^ gN x y)).filter (tcB x y 0 (2 ^ gN x y - 1 - M)) := by
  unfold trL
  obtain ⟨n, hn⟩ : ∃ n, 2 ^ gN x y = (M + 1) + n := ⟨2 ^ gN x y - (M + 1), by omega⟩
  have hf := filter_none (p := tcB x y 0 (2 ^ gN x y - 1 - M)) (a := M + 1) (n := n) fun s s1 s2 => by
    cases hp : tcB x y 0 (2 ^ gN x y - 1 - M) s with
    | false => rfl
    | true =>
      have := sub_le (tr_sub hk hM (by omega) hp)
      omega
  rw [← hf, ← hn]
theorem tr_len (M o : Nat) : (trL x y M o).length ≤ o := by
  unfold trL
  have := List.length_filter_le (tcB x y 0 (2 ^ gN x y - 1 - M)) (List.range o)
  rwa [List.length_range] at this
end
end Go.Proofs.Ytnfnandpcjgmmaa.couQ
