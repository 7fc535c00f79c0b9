/- Numbers of perfect mazes: the steps of counting and of finding, the answers, what the law asks; without the program. -/
import Derived.Test.YtnfnandpcjgmmaaNbrP
import Derived.Test.YtnfnandpcjgmmaaCouQ
namespace Go.Proofs.Ytnfnandpcjgmmaa.nbrQ
open Go.RowKit
open gridP gridQ bitP mazeP mazeQ reachP reachM reachN forest deadP detP trsP barP trcP cntQ cntF cntH couQ nbrP
set_option linter.unusedVariables false
section
variable {x y : Int}
theorem g24 (hk : OkZ x y) : gN x y ≤ 24 ∧ 2 ^ gN x y ≤ 16777216 ∧ gpsZ x y = (gN x y : Int) := by
  have h := gps_bd hk.1 hk.2.1 hk.2.2.1 hk.2.2.2
  have h1 : gN x y ≤ 24 := by unfold gN; omega
  exact ⟨h1, Nat.le_trans (Nat.pow_le_pow_right (by decide) h1) (by decide), by unfold gN; omega⟩
/-- A new gap is added to the chosen ones, or to the banned ones. -/
theorem or_new {o k : Nat} (ho : o < 2 ^ k) (hk : k < 24) : bits .or .i64 (o : Int) (wrap64 (2 ^ k)) = ((o + 2 ^ k : Nat) : Int) := by
  have hb := pow_bd (k : Int) (by omega)
  rw [Int.toNat_natCast] at hb
  have ho24 : o < 16777216 := by
    have h2 : 2 ^ k ≤ 2 ^ 24 := Nat.pow_le_pow_right (by decide) (by omega)
    have h3 : (2 : Nat) ^ 24 = 16777216 := by decide
    omega
  have := or_is (o := (o : Int)) (g := (k : Int)) (by omega) (by omega) (by omega) (by omega)
  rw [bitZ_bt (by omega) (by omega), Int.toNat_natCast, Int.toNat_natCast] at this
  rw [IntWalk.wrap64_in _ (by omega), this, if_neg (by unfold bt; rw [Nat.div_eq_of_lt ho]; decide)]
  simp
theorem or_new' {o k : Nat} (ho : o < 2 ^ k) (hk : k < 24) : bits .or .i64 (o : Int) (IntKind.i64.wrap (2 ^ k)) = ((o + 2 ^ k : Nat) : Int) := by
  rw [show IntKind.i64.wrap ((2 : Int) ^ k) = wrap64 (2 ^ k) by rw [IntKind.wrap_i64]; unfold wrap64; rfl]
  exact or_new ho hk
/-- The banned ones. -/
def qN (k p : Nat) : Nat := 2 ^ k - 1 - p
theorem q_lt (k p : Nat) : qN k p < 2 ^ k := by
  have := Nat.pow_pos (n := k) (show 0 < 2 by decide)
  unfold qN; omega
theorem q_same {k p : Nat} (hp : p < 2 ^ k) : qN (k + 1) (p + 2 ^ k) = qN k p := by
  unfold qN; rw [Nat.pow_succ]; omega
theorem q_more {k p : Nat} (hp : p < 2 ^ k) : qN (k + 1) p = qN k p + 2 ^ k := by
  unfold qN; rw [Nat.pow_succ]; omega
theorem t_bd (hk : OkZ x y) (k p : Nat) : tkN x y k p ≤ 16777216 := Nat.le_trans (tk_bd k p) (g24 hk).2.1
theorem t_cf (hk : OkZ x y) {k p : Nat} (hkg : k < gN x y) (hp : p < 2 ^ k) : cfZ x y (p : Int) ((qN k p + 2 ^ k : Nat) : Int) = (tkN x y (k + 1) p : Int) := tk_cf hk hkg hp

/-! ### a maze's number, gap by gap -/
theorem nu_yes {o k : Nat} (h : bt o k = 1) : o % 2 ^ (k + 1) = o % 2 ^ k + 2 ^ k ∧ nuN x y o (k + 1) = nuN x y o k + tkN x y (k + 1) (o % 2 ^ k) := by
  refine ⟨by rw [cntF.mod_next, h, Nat.one_mul], ?_⟩
  show nuN x y o k + (if bt o k = 1 then _ else 0) = _
  rw [if_pos h]
theorem nu_no {o k : Nat} (h : bt o k ≠ 1) : o % 2 ^ (k + 1) = o % 2 ^ k ∧ nuN x y o (k + 1) = nuN x y o k := by
  refine ⟨by rw [cntF.mod_next, show bt o k = 0 by have := bt_le o k; omega, Nat.zero_mul, Nat.add_zero], ?_⟩
  show nuN x y o k + (if bt o k = 1 then _ else 0) = _
  rw [if_neg h]; rfl
theorem nu_most (hk : OkZ x y) {o : Nat} (ho : o < 2 ^ gN x y) (h0 : lp x y o = 0 ∧ pt x y o = 1) {k : Nat} (hkg : k ≤ gN x y) : nuN x y o k ≤ 16777216 := by
  have h1 := (nu_rank ho h0 (gN x y - k) k (by omega)).2
  have h2 := nu_lt ho h0
  have h3 : tcN x y 0 0 ≤ 2 ^ gN x y := cnt_most _ _
  have := (g24 hk).2.1
  omega
theorem mod_lt2 (o k : Nat) : o % 2 ^ k < 2 ^ k := Nat.mod_lt _ (Nat.pow_pos (by decide))

/-! ### a number's maze, gap by gap -/
theorem ma_yes {n k : Nat} (h : ¬ (maS x y n k).2 < tkN x y (k + 1) (maS x y n k).1) : (maS x y n (k + 1)).1 = (maS x y n k).1 + 2 ^ k ∧ (maS x y n (k + 1)).2 = (maS x y n k).2 - tkN x y (k + 1) (maS x y n k).1 := by
  have e : maS x y n (k + 1) = if (maS x y n k).2 < tkN x y (k + 1) (maS x y n k).1 then maS x y n k else ((maS x y n k).1 + 2 ^ k, (maS x y n k).2 - tkN x y (k + 1) (maS x y n k).1) := rfl
  rw [e, if_neg h]; exact ⟨rfl, rfl⟩
theorem ma_no {n k : Nat} (h : (maS x y n k).2 < tkN x y (k + 1) (maS x y n k).1) : (maS x y n (k + 1)).1 = (maS x y n k).1 ∧ (maS x y n (k + 1)).2 = (maS x y n k).2 := by
  have e : maS x y n (k + 1) = if (maS x y n k).2 < tkN x y (k + 1) (maS x y n k).1 then maS x y n k else ((maS x y n k).1 + 2 ^ k, (maS x y n k).2 - tkN x y (k + 1) (maS x y n k).1) := rfl
  rw [e, if_pos h]; exact ⟨rfl, rfl⟩
theorem ma_lt {n : Nat} (hn : n < tcN x y 0 0) {k : Nat} (hkg : k ≤ gN x y) : (maS x y n k).1 < 2 ^ k := (ma_inv hn k hkg).1
theorem ma_bd (hk : OkZ x y) {n : Nat} (hn : n < tcN x y 0 0) {k : Nat} (hkg : k ≤ gN x y) : (maS x y n k).2 ≤ 16777216 := by
  have h1 := (ma_inv hn k hkg).2.1
  have := t_bd hk k (maS x y n k).1
  omega

/-! ### the answers -/
theorem c00 (hk : OkZ x y) : cfZ x y 0 0 = (tcN x y 0 0 : Int) := cf_is hk (c := 0) (b := 0) (Nat.pow_pos (by decide)) (Nat.pow_pos (by decide)) rfl
theorem c00_bad (hk : ¬ OkZ x y) : cfZ x y 0 0 = 0 := by
  unfold cfZ
  rw [if_neg]
  unfold cfB
  rw [decide_eq_false hk]; simp
/-- A maze that is not perfect has no number. -/
theorem nb_no {z : Int} (h : perfP.ipB x y z = false) : nuZ x y z = -1 := by unfold nuZ; rw [h]; rfl
theorem ip_ok {z : Int} (h : perfP.ipB x y z = true) : OkM x y z := by
  apply Classical.byContradiction
  intro hn
  unfold perfP.ipB reachD.cnB reachD.ptZ at h
  rw [if_neg hn] at h
  cases h
theorem nb_yes {o : Nat} (h : perfP.ipB x y o = true) : nuZ x y o = (nuN x y o (gN x y) : Int) := by
  unfold nuZ; rw [if_pos h, Int.toNat_natCast]
/-- A perfect maze, as the walks want it. -/
theorem nb_open {z : Int} (h : perfP.ipB x y z = true) : OkZ x y ∧ ∃ o : Nat, z = o ∧ o < 2 ^ gN x y ∧ (lp x y o = 0 ∧ pt x y o = 1) := by
  obtain ⟨hk, o, rfl, ho⟩ := okm_of (ip_ok h)
  exact ⟨hk, o, rfl, ho, (ip_is hk ho).1 h⟩
theorem at_no {n : Int} (h : ¬ (0 ≤ n ∧ n < cfZ x y 0 0)) : atB x y n = false ∧ atX x y n = 0 ∧ atY x y n = 0 ∧ atO x y n = 0 := by
  have e : atB x y n = false := decide_eq_false h
  unfold atX atY atO; rw [e]; exact ⟨rfl, rfl, rfl, rfl⟩
theorem at_yes {n : Int} (h : 0 ≤ n ∧ n < cfZ x y 0 0) : OkZ x y ∧ ∃ m : Nat, n = m ∧ m < tcN x y 0 0 ∧ atB x y n = true ∧ atX x y n = x ∧ atY x y n = y ∧ atO x y n = ((maS x y m (gN x y)).1 : Int) := by
  have hk : OkZ x y := by
    apply Classical.byContradiction
    intro hn; rw [c00_bad hn] at h; omega
  have e : atB x y n = true := decide_eq_true h
  rw [c00 hk] at h
  refine ⟨hk, n.toNat, by omega, by omega, e, ?_, ?_, ?_⟩
  · unfold atX; rw [if_pos e]
  · unfold atY; rw [if_pos e]
  · unfold atO; rw [if_pos e]
theorem at_ok {n : Int} (h : atB x y n = true) : atX x y n = x ∧ atY x y n = y := by
  unfold atX atY; rw [h]; exact ⟨rfl, rfl⟩
theorem nm_yes {z : Int} (h0 : 0 ≤ nuZ x y z) (h : atB x y (nuZ x y z + 1) = true) : nmB x y z = true ∧ nmO x y z = atO x y (nuZ x y z + 1) := by
  have e : nmB x y z = true := by unfold nmB; rw [decide_eq_true h0, h]; rfl
  refine ⟨e, ?_⟩
  unfold nmO atO; rw [if_pos e, if_pos h]
theorem nm_no {z : Int} (h : ¬ 0 ≤ nuZ x y z ∨ atB x y (nuZ x y z + 1) = false) : nmB x y z = false ∧ nmO x y z = z := by
  have e : nmB x y z = false := by
    unfold nmB
    rcases h with h | h
    · rw [decide_eq_false h]; rfl
    · rw [h]; simp
  refine ⟨e, ?_⟩
  unfold nmO; rw [e]; rfl
theorem nb_bd (x y z : Int) : -1 ≤ nuZ x y z ∧ nuZ x y z ≤ 16777216 := by
  cases h : perfP.ipB x y z with
  | false => rw [nb_no h]; decide
  | true =>
    obtain ⟨hk, o, rfl, ho, h0⟩ := nb_open h
    rw [nb_yes h]
    have := nu_most hk ho h0 (Nat.le_refl _)
    omega
/-- All that the law asks of a maze, and of a number. -/
theorem numbers (hk : OkZ x y) {o : Nat} (ho : o < 2 ^ gN x y) (h0 : lp x y o = 0 ∧ pt x y o = 1) :
    ∃ n a : Nat, nuZ x y o = n ∧ cfZ x y 0 0 = a ∧ n < a ∧ a ≤ 16777216 ∧ atX x y n = x ∧ atY x y n = y ∧ atO x y n = o ∧ atB x y n = true ∧ nmB x y o = decide (n + 1 < a) ∧
      (n + 1 < a → nuZ x y (nmO x y o) = ((n + 1 : Nat) : Int)) ∧ ctZ x y (topZ x y) = a ∧
      (∀ k : Nat, k < a → atX x y k = x ∧ atY x y k = y ∧ atB x y k = true ∧ nuZ x y (atO x y k) = (k : Int)) := by
  have hc := c00 hk
  have hip : perfP.ipB x y o = true := (ip_is hk ho).2 h0
  have hn := nb_yes hip
  have hlt := nu_lt ho h0
  have hat : ∀ k : Nat, k < tcN x y 0 0 → atX x y k = x ∧ atY x y k = y ∧ atB x y k = true ∧ nuZ x y (atO x y k) = (k : Int) := fun k hk' => by
    obtain ⟨_, m, e, hm, h1, h2, h3, h4⟩ := at_yes (x := x) (y := y) (n := (k : Int)) ⟨by omega, by rw [hc]; omega⟩
    have e : k = m := by omega
    subst e
    obtain ⟨i1, i2, i3⟩ := ma_is hm
    refine ⟨h2, h3, h1, ?_⟩
    rw [h4, nb_yes ((ip_is hk i1).2 i2), i3]
  have ha := hat _ hlt
  refine ⟨nuN x y o (gN x y), tcN x y 0 0, hn, hc, hlt, ?_, ha.1, ha.2.1, ?_, ha.2.2.1, ?_, fun h => ?_, ?_, hat⟩
  · have h3 : tcN x y 0 0 ≤ 2 ^ gN x y := cnt_most _ _
    have := (g24 hk).2.1
    omega
  · unfold atO; rw [if_pos ha.2.2.1, Int.toNat_natCast, ma_nu ho h0]
  · unfold nmB atB; rw [hn, hc, decide_eq_true (show (0 : Int) ≤ (nuN x y o (gN x y) : Int) by omega), Bool.true_and]
    by_cases h : nuN x y o (gN x y) + 1 < tcN x y 0 0
    · rw [decide_eq_true h, decide_eq_true (by omega)]
    · rw [decide_eq_false h, decide_eq_false (by omega)]
  · obtain ⟨k1, k2, k3, k4⟩ := hat _ h
    have e : ((nuN x y o (gN x y) + 1 : Nat) : Int) = nuZ x y o + 1 := by rw [hn]; omega
    rw [e] at k3 k4 ⊢
    rw [(nm_yes (by rw [hn]; omega) k3).2, k4]
  · rw [top_is hk]
    unfold ctZ ctN
    have hp := Nat.pow_pos (n := gN x y) (show 0 < 2 by decide)
    have hv : OkM x y ((2 ^ gN x y - 1 : Nat) : Int) := ⟨hk, by omega, by rw [top_is hk]; omega⟩
    rw [if_pos hv, Int.toNat_natCast, Nat.sub_self]

/-! ### a maze's beginning, as a list of truth values -/
def fxL (o k : Nat) : List Bool := (List.range k).map fun g => decide (bt o g = 1)
theorem fx_len (o k : Nat) : (fxL o k).length = k := by simp [fxL]
theorem fx_at {o k j : Nat} (h : j < k) : (fxL o k)[j]? = some (decide (bt o j = 1)) := by
  unfold fxL; rw [List.getElem?_map, List.getElem?_range h]; rfl
theorem fx_next (o k : Nat) : fxL o (k + 1) = fxL o k ++ [decide (bt o k = 1)] := by
  unfold fxL; rw [List.range_succ, List.map_append]; rfl
theorem fx_mod (o k : Nat) : fxL (o % 2 ^ k) k = fxL o k := List.map_congr_left fun g hg => by
  rw [cntF.bt_mod, if_pos (List.mem_range.1 hg)]
/-- A wall is added. -/
theorem fx_wall {p k : Nat} (hp : p < 2 ^ k) : fxL p (k + 1) = fxL p k ++ [false] := by
  rw [fx_next, bt_lt hp (Nat.le_refl _)]; rfl
/-- A passage is added. -/
theorem fx_gap {p k : Nat} (hp : p < 2 ^ k) : fxL (p + 2 ^ k) (k + 1) = fxL p k ++ [true] := by
  have hb : bt (p + 2 ^ k) k = 1 := by rw [Nat.add_comm]; exact bt_hi hp
  rw [fx_next, hb, ← fx_mod (p + 2 ^ k), Nat.add_mod_right, Nat.mod_eq_of_lt hp]; rfl
theorem sg_new (hk : OkZ x y) {p k : Nat} (hp : p < 2 ^ k) (hkg : k < gN x y) : sgZ x y p k true = ((p + 2 ^ k : Nat) : Int) := by
  have h1 : 2 ^ k ≤ 2 ^ gN x y := Nat.pow_le_pow_right (by decide) (by omega)
  have h2 := (g24 hk).2.2
  have hs : sgB x y p k = true := decide_eq_true ⟨⟨hk, by omega, by rw [top_is hk]; omega⟩, by omega, by omega⟩
  unfold sgZ
  rw [if_pos hs, bitZ_bt (by omega) (by omega), Int.toNat_natCast, Int.toNat_natCast, bt_lt hp (Nat.le_refl _)]
  simp
end
end Go.Proofs.Ytnfnandpcjgmmaa.nbrQ
