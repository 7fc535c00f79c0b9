/- How the perfect mazes of a maze share its passages: what the laws of counts ask. -/
import Derived.Test.YtnfnandpcjgmmaaCntA
import Derived.Test.YtnfnandpcjgmmaaCntL
namespace Go.Proofs.Ytnfnandpcjgmmaa.cntH
open reachD gridP gridQ bitP mazeP mazeQ mazeM mazeR reachP reachM reachN forest deadP detP trsP barP trcP cntQ cntN cntF
open perfP (kruskals ps_bt cp_pc pt_pt)
set_option linter.unusedVariables false

theorem sm_add (f g : Nat → Nat) : ∀ n, smN (fun k => f k + g k) n = smN f n + smN g n
  | 0 => rfl
  | n + 1 => by unfold smN; rw [sm_add f g n]; omega
theorem sm_bits (o : Nat) : ∀ G, smN (fun k => if decide (bt o k = 1) = true then 1 else 0) G = pcN o G
  | 0 => rfl
  | G + 1 => by
    unfold smN pcN
    rw [sm_bits o G]
    have h := bt_le o G
    by_cases e : bt o G = 1
    · rw [if_pos (decide_eq_true e)]; unfold bt at e; omega
    · rw [if_neg (by simpa using e)]; unfold bt at e h; omega
/-- Counting twice. -/
theorem cnt_bits (p : Nat → Bool) (N G : Nat) : ∀ n, (∀ o, o < n → p o = true → pcN o G = N) → smN (fun k => cnt (fun o => p o && decide (bt o k = 1)) n) G = cnt p n * N
  | 0, _ => by simp only [cnt, Nat.zero_mul]; exact smN_zero fun _ _ => rfl
  | n + 1, h => by
    have ih := cnt_bits p N G n fun o ho => h o (by omega)
    simp only [cnt]
    rw [sm_add, ih]
    by_cases hp : p n = true
    · simp only [hp, Bool.true_and, if_true]
      rw [sm_bits, h n (by omega) hp, Nat.add_mul, Nat.one_mul]
    · simp only [hp, Bool.false_and, Bool.false_eq_true, if_false]
      rw [smN_zero fun _ _ => rfl, Nat.add_zero, Nat.add_zero]
section
variable {x y : Int}
theorem tc_pc {c b o : Nat} (h : tcB x y c b o = true) : pcN o (gN x y) = cN x y - 1 := by
  obtain ⟨h1, h2, -⟩ := of_decide_eq_true h
  unfold lp at h1
  omega
theorem bt_sub {o g : Nat} (h : bt o g = 1) (j : Nat) : bt (o - 2 ^ g) j = if j = g then 0 else bt o j := by
  obtain ⟨h1, h2, h3⟩ := bt_take h
  have := bt_add h2 j
  rw [h3] at this
  split
  · rename_i e; rw [e, h2]
  · rename_i e; rw [if_neg e] at this; exact this.symm
/-- How many of them have a passage at the gap. -/
def cwN (x y : Int) (o g : Nat) : Nat := cnt (fun q => tcB x y 0 (2 ^ gN x y - 1 - o) q && decide (bt q g = 1)) (2 ^ gN x y)
theorem tc_in {o q : Nat} (ho : o < 2 ^ gN x y) : tcB x y 0 (2 ^ gN x y - 1 - o) q = true ↔ lp x y q = 0 ∧ pt x y q = 1 ∧ ∀ g, g < gN x y → bt q g = 1 → bt o g = 1 := by
  unfold tcB
  rw [decide_eq_true_iff]
  refine and_congr_right fun _ => and_congr_right fun _ => forall_congr' fun g => forall_congr' fun hg => ?_
  rw [bt_zero, bt_compl ho hg]
  have h1 := bt_le o g
  have h2 := bt_le q g
  omega
theorem cw_is (hk : OkZ x y) {o g : Nat} (ho : o < 2 ^ gN x y) (hg : g < gN x y) : cwZ x y o g = (cwN x y o g : Int) := by
  have hv := okm hk ho
  unfold cwZ cwN
  by_cases hb : bt o g = 1
  · rw [if_pos ((ps_bt hk ho hg).2 hb)]
    obtain ⟨t1, t2, t3⟩ := bt_take hb
    have ho' : o - 2 ^ g < 2 ^ gN x y := Nat.lt_of_le_of_lt (Nat.sub_le _ _) ho
    have hs : sgZ x y o g false = ((o - 2 ^ g : Nat) : Int) := by
      unfold sgZ
      rw [show sgB x y o g = true from decide_eq_true ⟨hv, by omega, by unfold gN at hg; omega⟩, if_pos rfl, bitZ_bt (by omega) (by omega), Int.toNat_natCast, Int.toNat_natCast, hb, Int.natCast_sub t1]
      simp
    rw [hs]
    unfold ctZ
    rw [if_pos hv, if_pos (okm hk ho'), Int.toNat_natCast, Int.toNat_natCast]
    unfold ctN tcN
    have hd := cnt_diff (p := tcB x y 0 (2 ^ gN x y - 1 - o)) (q := tcB x y 0 (2 ^ gN x y - 1 - (o - 2 ^ g))) (n := 2 ^ gN x y) fun q hq h => by
      rw [tc_in ho'] at h
      rw [tc_in ho]
      refine ⟨h.1, h.2.1, fun j hj hqj => ?_⟩
      have := h.2.2 j hj hqj
      rw [bt_sub hb] at this
      split at this
      · omega
      · exact this
    have he := cnt_ext (p := fun q => tcB x y 0 (2 ^ gN x y - 1 - o) q && !tcB x y 0 (2 ^ gN x y - 1 - (o - 2 ^ g)) q) (q := fun q => tcB x y 0 (2 ^ gN x y - 1 - o) q && decide (bt q g = 1)) (n := 2 ^ gN x y) fun q hq => ?_
    · rw [he] at hd
      rw [hd]
      omega
    · show (tcB x y 0 (2 ^ gN x y - 1 - o) q && !tcB x y 0 (2 ^ gN x y - 1 - (o - 2 ^ g)) q) = _
      cases hp : tcB x y 0 (2 ^ gN x y - 1 - o) q with
      | false => rfl
      | true =>
        rw [tc_in ho] at hp
        rw [Bool.true_and, Bool.true_and, Bool.eq_iff_iff, Bool.not_eq_true', ← Bool.not_eq_true, tc_in ho', decide_eq_true_iff]
        refine ⟨fun h => Decidable.byContradiction fun hq => h ⟨hp.1, hp.2.1, fun j hj hqj => ?_⟩, fun h h' => ?_⟩
        · rw [bt_sub hb, if_neg fun e : j = g => hq (by rw [← e]; exact hqj)]
          exact hp.2.2 j hj hqj
        · have := h'.2.2 g hg h
          rw [bt_sub hb, if_pos rfl] at this
          omega
  · rw [if_neg fun h => hb ((ps_bt hk ho hg).1 h), cnt_none fun q hq => ?_]
    · rfl
    · rw [← Bool.not_eq_true, Bool.and_eq_true, tc_in ho, decide_eq_true_iff]
      exact fun h => hb (h.1.2.2 g hg h.2)
/-- Passages share the trees evenly in the end. -/
theorem cw_sum (hk : OkZ x y) {o : Nat} (ho : o < 2 ^ gN x y) : smN (cwN x y o) (gN x y) = ctN x y o * (cN x y - 1) :=
  cnt_bits _ _ _ _ fun _ _ h => tc_pc h
theorem sm_le {f : Nat → Nat} {B : Nat} (h : ∀ k, f k ≤ B) : ∀ n, smN f n ≤ n * B
  | 0 => by simp [smN]
  | n + 1 => by unfold smN; have := sm_le h n; have := h n; rw [Nat.add_mul]; omega
theorem cw_bd (hk : OkZ x y) (o k : Nat) : cwN x y o k ≤ 16777216 := by
  have h1 : cwN x y o k ≤ 2 ^ gN x y := cnt_most _ _
  have h2 : 2 ^ gN x y ≤ 2 ^ 24 := Nat.pow_le_pow_right (by decide) (by have := gps_bd hk.1 hk.2.1 hk.2.2.1 hk.2.2.2; unfold gN; omega)
  have e2 : (2 ^ 24 : Nat) = 16777216 := rfl
  omega
/-- There is a perfect maze of every grid. -/
theorem tree_some (hk : OkZ x y) : 1 ≤ tcN x y 0 0 := by
  have hg0 := gps_bd hk.1 hk.2.1 hk.2.2.1 hk.2.2.2
  obtain ⟨-, h, -⟩ := kruskals (l := (List.range (gN x y)).map fun k : Nat => (k : Int)) hk (fun g hg => by
    obtain ⟨k, hk', rfl⟩ := List.mem_map.1 hg
    have := List.mem_range.1 hk'
    unfold gN at this
    omega) (fun j hj => List.mem_map.2 ⟨j, List.mem_range.2 (by unfold gN; omega), rfl⟩)
  generalize perfP.kzL x y ((List.range (gN x y)).map fun k : Nat => (k : Int)) 0 = z at h
  have hv : OkM x y z := Decidable.byContradiction fun hv => by
    unfold perfP.ipB cnB ptZ at h
    rw [if_neg hv] at h
    simp at h
  obtain ⟨-, o, rfl, ho⟩ := okm_of hv
  unfold perfP.ipB cnB at h
  rw [pt_pt hk ho, cp_pc hk ho, (perfP.nn hk).1] at h
  simp only [Bool.and_eq_true, beq_iff_eq] at h
  refine cnt_pos (k := o) ho (decide_eq_true ⟨?_, by omega, fun g hg => ⟨fun e => ?_, fun e => ?_⟩⟩)
  · unfold lp; omega
  · rw [bt_zero] at e; omega
  · rw [bt_zero] at e; omega
theorem bt_pow (g j : Nat) : bt (2 ^ g) j = if j = g then 1 else 0 := by
  have := bt_add (n := 0) (bt_zero g) j
  rw [Nat.zero_add, bt_zero] at this
  exact this
/-- A gap is a passage or a wall. -/
theorem tc_gap {g : Nat} (hg : g < gN x y) : tcN x y (2 ^ g) 0 + tcN x y 0 (2 ^ g) = tcN x y 0 0 := by
  have h1 : ∀ q, tcB x y 0 0 q = true ↔ lp x y q = 0 ∧ pt x y q = 1 := fun q => by
    unfold tcB
    rw [decide_eq_true_iff]
    refine ⟨fun h => ⟨h.1, h.2.1⟩, fun h => ⟨h.1, h.2, fun j _ => ⟨fun e => ?_, fun e => ?_⟩⟩⟩ <;> rw [bt_zero] at e <;> omega
  have h2 : ∀ q, tcB x y (2 ^ g) 0 q = true ↔ lp x y q = 0 ∧ pt x y q = 1 ∧ bt q g = 1 := fun q => by
    unfold tcB
    rw [decide_eq_true_iff]
    refine ⟨fun h => ⟨h.1, h.2.1, (h.2.2 g hg).1 (by rw [bt_pow, if_pos rfl])⟩, fun h => ⟨h.1, h.2.1, fun j _ => ⟨fun e => ?_, fun e => ?_⟩⟩⟩
    · rw [bt_pow] at e
      split at e
      · rename_i e'; rw [e']; exact h.2.2
      · omega
    · rw [bt_zero] at e; omega
  have h3 : ∀ q, tcB x y 0 (2 ^ g) q = true ↔ lp x y q = 0 ∧ pt x y q = 1 ∧ bt q g = 0 := fun q => by
    unfold tcB
    rw [decide_eq_true_iff]
    refine ⟨fun h => ⟨h.1, h.2.1, (h.2.2 g hg).2 (by rw [bt_pow, if_pos rfl])⟩, fun h => ⟨h.1, h.2.1, fun j _ => ⟨fun e => ?_, fun e => ?_⟩⟩⟩
    · rw [bt_zero] at e; omega
    · rw [bt_pow] at e
      split at e
      · rename_i e'; rw [e']; exact h.2.2
      · omega
  refine (cnt_or (p := tcB x y (2 ^ g) 0) (q := tcB x y 0 (2 ^ g)) (fun q _ => ?_) fun q _ hp hq => ?_).symm
  · rw [Bool.eq_iff_iff, Bool.or_eq_true, h1, h2, h3]
    have := bt_le q g
    constructor
    · intro h
      by_cases e : bt q g = 1
      · exact .inl ⟨h.1, h.2, e⟩
      · exact .inr ⟨h.1, h.2, by omega⟩
    · rintro (h | h) <;> exact ⟨h.1, h.2.1⟩
  · rw [h2] at hp
    rw [h3] at hq
    have := hp.2.2
    have := hq.2.2
    omega
theorem top_is (hk : OkZ x y) : topZ x y = ((2 ^ gN x y - 1 : Nat) : Int) := by
  have : 0 < 2 ^ gN x y := Nat.pow_pos (by decide)
  unfold topZ gN
  rw [Int.natCast_sub (by unfold gN at this; omega)]
  simp
theorem cf_is (hk : OkZ x y) {c b : Nat} (hc : c < 2 ^ gN x y) (hb : b < 2 ^ gN x y) (h : c &&& b = 0) : cfZ x y c b = (tcN x y c b : Int) := by
  have ht := top_is hk
  unfold cfZ cfB
  rw [decide_eq_true hk, decide_eq_true (show 0 ≤ (c : Int) ∧ (c : Int) ≤ topZ x y by omega), decide_eq_true (show 0 ≤ (b : Int) ∧ (b : Int) ≤ topZ x y by omega), Int.toNat_natCast, Int.toNat_natCast, h]
  rfl
/-- WHAT THE LAW OF COUNTS ASKS. -/
theorem counts (hk : OkZ x y) {o : Nat} (ho : o < 2 ^ gN x y) :
    1 ≤ cfZ x y 0 0 ∧ (∀ k, k < gN x y → cwZ x y o k = (cwN x y o k : Int)) ∧ ((smN (cwN x y o) (gN x y) : Nat) : Int) = ctZ x y o * (x * y - 1) ∧
    ∀ g, g < gN x y → cfZ x y ((2 ^ g : Nat) : Int) 0 + cfZ x y 0 ((2 ^ g : Nat) : Int) = cfZ x y 0 0 := by
  have hp : 0 < 2 ^ gN x y := Nat.pow_pos (by decide)
  have h00 : cfZ x y 0 0 = (tcN x y 0 0 : Int) := cf_is hk (c := 0) (b := 0) hp hp rfl
  obtain ⟨n1, n2, n3⟩ := perfP.nn hk
  refine ⟨?_, fun k hk' => cw_is hk ho hk', ?_, fun g hg => ?_⟩
  · rw [h00]; have := tree_some hk; omega
  · rw [cw_sum hk ho, n1]
    unfold ctZ
    rw [if_pos (okm hk ho), Int.toNat_natCast, Int.natCast_mul, Int.natCast_sub n2]
    rfl
  · have hg2 : 2 ^ g < 2 ^ gN x y := Nat.pow_lt_pow_right (by decide) hg
    have e1 : cfZ x y ((2 ^ g : Nat) : Int) 0 = _ := cf_is hk (b := 0) hg2 hp (Nat.and_zero _)
    have e2 : cfZ x y 0 ((2 ^ g : Nat) : Int) = _ := cf_is hk (c := 0) hp hg2 (Nat.zero_and _)
    rw [e1, e2, h00]
    have := tc_gap hg
    omega
/-- The full maze has at least one perfect maze, and a maze's are those of the whole grid without its walls. -/
theorem ct_full (hk : OkZ x y) : 1 ≤ ctZ x y (topZ x y) := by
  have hp : 0 < 2 ^ gN x y := Nat.pow_pos (by decide)
  rw [top_is hk]
  unfold ctZ
  rw [if_pos (okm hk (by omega)), Int.toNat_natCast]
  unfold ctN
  rw [Nat.sub_self]
  have := tree_some hk
  omega
theorem cf_walls (hk : OkZ x y) {o : Nat} (ho : o < 2 ^ gN x y) : cfZ x y 0 ((2 ^ gN x y - 1 - o : Nat) : Int) = ctZ x y o := by
  have e : cfZ x y 0 ((2 ^ gN x y - 1 - o : Nat) : Int) = _ := cf_is hk (c := 0) (b := 2 ^ gN x y - 1 - o) (by omega) (by omega) (Nat.zero_and _)
  rw [e]
  unfold ctZ
  rw [if_pos (okm hk ho), Int.toNat_natCast]
  rfl
end
end Go.Proofs.Ytnfnandpcjgmmaa.cntH
