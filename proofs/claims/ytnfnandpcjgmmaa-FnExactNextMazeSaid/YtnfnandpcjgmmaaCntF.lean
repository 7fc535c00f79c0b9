/- Parts that chosen gaps make, by labels, without the program: as the model finds them. -/
import Derived.Test.YtnfnandpcjgmmaaCntQ
import Derived.Test.YtnfnandpcjgmmaaWals
namespace Go.Proofs.Ytnfnandpcjgmmaa.cntF
open gridP gridQ bitP mazeP mazeQ reachP reachM reachN forest deadP detP trsP barP barQ trcP cntQ
open walP (lbN mgN frB fr_iff nD)
open walS (mg_iff)
set_option linter.unusedVariables false

/-- The labels of the cells behind the first k gaps. -/
def lcN (x y : Int) (c k : Nat) : Nat → Nat := lbN (fun g => decide (bt c g = 1)) (aN x y) (bN x y) id k
section
variable {x y : Int}
theorem lc_yes {c k : Nat} (h : bt c k = 1) : lcN x y c (k + 1) = mgN (lcN x y c k) (aN x y k) (bN x y k) := by
  show lbN _ _ _ _ (k + 1) = _
  rw [lbN, if_pos (decide_eq_true h)]; rfl
theorem lc_no {c k : Nat} (h : bt c k ≠ 1) : lcN x y c (k + 1) = lcN x y c k := by
  show lbN _ _ _ _ (k + 1) = _
  rw [lbN, if_neg (by simpa using h)]; rfl
theorem mod_next (c k : Nat) : c % 2 ^ (k + 1) = c % 2 ^ k + bt c k * 2 ^ k := by
  unfold bt
  rw [Nat.pow_succ, Nat.mod_mul]
  rw [Nat.mul_comm]
theorem bt_mod (c k g : Nat) : bt (c % 2 ^ k) g = if g < k then bt c g else 0 := by
  have h := bt_test (c % 2 ^ k) g
  rw [Nat.testBit_mod_two_pow, bt_test] at h
  have h1 := bt_le (c % 2 ^ k) g
  have h2 := bt_le c g
  by_cases hg : g < k
  · rw [if_pos hg]
    rw [decide_eq_true hg, Bool.true_and, decide_eq_decide] at h
    omega
  · rw [if_neg hg]
    rw [decide_eq_false hg, Bool.false_and] at h
    have := of_decide_eq_false h.symm
    omega
theorem mod_lt (hk : OkZ x y) {c k : Nat} (hc : c < 2 ^ gN x y) : c % 2 ^ k < 2 ^ gN x y := Nat.lt_of_le_of_lt (Nat.mod_le _ _) hc
/-- Labels are the parts. -/
theorem lc_cn (hk : OkZ x y) {c : Nat} (hc : c < 2 ^ gN x y) : ∀ k, k ≤ gN x y → ∀ i j, i < cN x y → j < cN x y → (lcN x y c k i = lcN x y c k j ↔ Cn x y (c % 2 ^ k) i j)
  | 0, _, i, j, hi, hj => by
    rw [show c % 2 ^ 0 = 0 by rw [Nat.pow_zero, Nat.mod_one]]
    exact (parts_zero hk).2.1 i j hi hj
  | k + 1, hg, i, j, hi, hj => by
    have ih := lc_cn hk hc k (by omega)
    obtain ⟨e1, e2, -, -⟩ := ends_lt hk (g := k) (by omega)
    by_cases hb : bt c k = 1
    · rw [lc_yes hb, mg_iff, ih i j hi hj, ih i _ hi (by omega), ih j _ hj e2, ih i _ hi e2, ih j _ hj (by omega), mod_next, hb, Nat.one_mul,
        cn_add hk (mod_lt hk hc) (show k < gN x y by omega) (by rw [bt_mod, if_neg (Nat.lt_irrefl k)])]
      constructor
      · rintro (h | ⟨h, h'⟩ | ⟨h, h'⟩)
        · exact .inl h
        · exact .inr (.inl ⟨h, cn_symm h'⟩)
        · exact .inr (.inr ⟨h, cn_symm h'⟩)
      · rintro (h | ⟨h, h'⟩ | ⟨h, h'⟩)
        · exact .inl h
        · exact .inr (.inl ⟨h, cn_symm h'⟩)
        · exact .inr (.inr ⟨h, cn_symm h'⟩)
    · have h0 : bt c k = 0 := by have := bt_le c k; omega
      rw [lc_no hb, ih i j hi hj, mod_next, h0, Nat.zero_mul, Nat.add_zero]
theorem lc_lt (hk : OkZ x y) (c : Nat) : ∀ k, k ≤ gN x y → ∀ i, i < cN x y → lcN x y c k i < cN x y
  | 0, _, i, hi => hi
  | k + 1, hg, i, hi => by
    have ih := lc_lt hk c k (by omega)
    obtain ⟨e1, e2, -, -⟩ := ends_lt hk (g := k) (by omega)
    by_cases hb : bt c k = 1
    · rw [lc_yes hb]
      unfold mgN
      split
      · exact ih _ (by omega)
      · exact ih _ hi
    · rw [lc_no hb]; exact ih i hi
/-- Is a chosen gap one between cells of one part? -/
def cyB (x y : Int) (c k : Nat) : Bool := decide (bt c k = 1) && (lcN x y c k (aN x y k) == lcN x y c k (bN x y k))
theorem cy_zero (hk : OkZ x y) {c b k : Nat} (hc : c < 2 ^ gN x y) (hg : k < gN x y) (h : cyB x y c k = true) : tcN x y c b = 0 := by
  unfold cyB at h
  rw [Bool.and_eq_true] at h
  have hb := of_decide_eq_true h.1
  obtain ⟨e1, e2, -, -⟩ := ends_lt hk hg
  have e : lcN x y c k (aN x y k) = lcN x y c k (bN x y k) := by simpa using h.2
  have hcn := (lc_cn hk hc k (by omega) (aN x y k) (bN x y k) (by omega) e2).1 e
  unfold tcN
  refine cnt_none fun o ho => ?_
  unfold tcB
  rw [decide_eq_false_iff_not]
  rintro ⟨h1, -, h3⟩
  have hbo := (h3 k hg).1 hb
  refine (all_bridges hk ho).2 h1 k hg hbo (cn_mono (okm hk (mod_lt hk hc)) (okm hk (Nat.lt_of_le_of_lt (Nat.sub_le _ _) ho)) (fun g hg' hbg => ?_) hcn)
  rw [bt_mod] at hbg
  by_cases hgk : g < k
  · rw [if_pos hgk] at hbg
    obtain ⟨t1, t2, t3⟩ := bt_take hbo
    have hne : g ≠ k := by omega
    have := bt_add (n := o - 2 ^ k) (g := k) t2 g
    rw [t3, if_neg hne] at this
    rw [← this]; exact (h3 g hg').1 hbg
  · rw [if_neg hgk] at hbg; omega
theorem no_cy (hk : OkZ x y) {c : Nat} (hc : c < 2 ^ gN x y) (h : ∀ k, k < gN x y → cyB x y c k = false) : lp x y c = 0 := by
  have := (lp_chain (o := c) hk (gN x y) (Nat.le_refl _)).2 fun g hg hb hcn => by
    have h1 := h g hg
    obtain ⟨e1, e2, -, -⟩ := ends_lt hk hg
    have h2 := (lc_cn hk hc g (by omega) _ _ (by omega) e2).2 hcn
    unfold cyB at h1
    rw [decide_eq_true hb, Bool.true_and, h2] at h1
    simp at h1
  rwa [Nat.mod_eq_of_lt hc] at this
end

/-! ### places of labels -/
/-- The first place that has the same label. -/
def fst (L : Nat → Nat) (k : Nat) : Nat := ((List.range k).find? fun i => L i == L k).getD k
theorem fst_spec (L : Nat → Nat) (k : Nat) : fst L k ≤ k ∧ L (fst L k) = L k ∧ ∀ i, i < fst L k → L i ≠ L k := by
  unfold fst
  cases h : (List.range k).find? fun i => L i == L k with
  | none =>
    refine ⟨Nat.le_refl _, rfl, fun i hi e => ?_⟩
    have := List.find?_eq_none.1 h i (List.mem_range.2 hi)
    exact this (by simpa using e)
  | some f =>
    rw [List.find?_range_eq_some] at h
    refine ⟨by have := List.mem_range.1 h.2.1; show f ≤ k; omega, by simpa using h.1, fun i hi e => ?_⟩
    have := h.2.2 i hi
    rw [e] at this
    simp at this
theorem fst_first (L : Nat → Nat) (k : Nat) : frB L (fst L k) = true := (fr_iff L _).2 fun i hi e => (fst_spec L k).2.2 i hi (e.trans (fst_spec L k).2.1)
theorem fst_eq {L : Nat → Nat} {a b : Nat} (h : L a = L b) : fst L a = fst L b := by
  obtain ⟨-, a2, a3⟩ := fst_spec L a
  obtain ⟨-, b2, b3⟩ := fst_spec L b
  rcases Nat.lt_trichotomy (fst L a) (fst L b) with h1 | h1 | h1
  · exact absurd (a2.trans h) (b3 _ h1)
  · exact h1
  · exact absurd (b2.trans h.symm) (a3 _ h1)
/-- The number of a label. -/
def plc (L : Nat → Nat) (k : Nat) : Nat := cnt (frB L) (fst L k)
theorem cnt_mono (p : Nat → Bool) {a b : Nat} (h : a ≤ b) : cnt p a ≤ cnt p b := by
  induction h with
  | refl => exact Nat.le_refl _
  | step _ ih =>
    refine Nat.le_trans ih ?_
    rename_i m _
    show cnt p m ≤ cnt p m + _
    omega
theorem cnt_next {p : Nat → Bool} {a : Nat} (h : p a = true) : cnt p (a + 1) = cnt p a + 1 := by
  show cnt p a + (if p a = true then 1 else 0) = _
  rw [if_pos h]
theorem plc_iff {L : Nat → Nat} {a b : Nat} : plc L a = plc L b ↔ L a = L b := by
  constructor
  · intro h
    rcases Nat.lt_trichotomy (fst L a) (fst L b) with h1 | h1 | h1
    · have h2 := cnt_next (fst_first L a)
      have h3 := cnt_mono (frB L) (show fst L a + 1 ≤ fst L b by omega)
      unfold plc at h; omega
    · rw [← (fst_spec L a).2.1, h1, (fst_spec L b).2.1]
    · have h2 := cnt_next (fst_first L b)
      have h3 := cnt_mono (frB L) (show fst L b + 1 ≤ fst L a by omega)
      unfold plc at h; omega
  · intro h; unfold plc; rw [fst_eq h]
theorem plc_lt {L : Nat → Nat} {a n : Nat} (h : a < n) : plc L a < nD L n := by
  have h2 := cnt_next (fst_first L a)
  have h1 := (fst_spec L a).1
  have h3 := cnt_mono (frB L) (show fst L a + 1 ≤ n by omega)
  unfold plc nD; omega
theorem plc_onto {L : Nat → Nat} : ∀ {n t : Nat}, t < nD L n → ∃ a, a < n ∧ plc L a = t
  | 0, t, h => absurd h (Nat.not_lt_zero t)
  | n + 1, t, h => by
    by_cases ht : t < nD L n
    · obtain ⟨a, ha, e⟩ := plc_onto ht
      exact ⟨a, by omega, e⟩
    · have e : nD L (n + 1) = nD L n + if frB L n = true then 1 else 0 := rfl
      by_cases hf : frB L n = true
      · rw [e, if_pos hf] at h
        refine ⟨n, by omega, ?_⟩
        have hn : fst L n = n := by
          obtain ⟨f1, f2, -⟩ := fst_spec L n
          rcases Nat.lt_or_ge (fst L n) n with h1 | h1
          · exact absurd f2 ((fr_iff L n).1 hf _ h1)
          · omega
        unfold plc; rw [hn]
        unfold nD at h ht; omega
      · rw [e, if_neg hf] at h; omega
section
variable {x y : Int}
/-- The labels' numbers are the parts. -/
theorem plc_parts (hk : OkZ x y) {c : Nat} (hc : c < 2 ^ gN x y) (h : lp x y c = 0) : Parts x y c (nD (lcN x y c (gN x y)) (cN x y)) (plc (lcN x y c (gN x y))) := by
  have hcn := lc_cn hk hc (gN x y) (Nat.le_refl _)
  rw [Nat.mod_eq_of_lt hc] at hcn
  refine ⟨fun a ha => plc_lt ha, fun a b ha hb => plc_iff.trans (hcn a b ha hb), fun t ht => plc_onto ht, ?_⟩
  have hpt : pt x y c = nD (lcN x y c (gN x y)) (cN x y) := by
    unfold pt nD
    rw [cp_cnt]
    refine cnt_ext fun k hkc => ?_
    rw [Bool.eq_iff_iff, least_iff hkc, fr_iff]
    exact forall_congr' fun j => forall_congr' fun hj => not_congr ((cn_comm).trans (hcn j k (by omega) hkc).symm)
  unfold lp at h
  rw [hpt] at h; omega
theorem nd_pos' (hk : OkZ x y) (L : Nat → Nat) : 1 ≤ nD L (cN x y) := walP.nd_pos L (c16 hk).1

/-! ### the answers -/
/-- How many perfect mazes have the chosen gaps and none of the banned ones. -/
def cfB (x y c b : Int) : Bool := decide (OkZ x y) && decide (0 ≤ c ∧ c ≤ topZ x y) && decide (0 ≤ b ∧ b ≤ topZ x y) && (c.toNat &&& b.toNat == 0)
def cfZ (x y c b : Int) : Int := if cfB x y c b = true then (tcN x y c.toNat b.toNat : Int) else 0
end
end Go.Proofs.Ytnfnandpcjgmmaa.cntF
