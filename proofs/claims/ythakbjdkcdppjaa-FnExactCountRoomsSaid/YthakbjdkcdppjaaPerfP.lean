/- Perfect mazes, without the program: what the functions of the chapter answer, and what its laws ask. -/
import Derived.Test.YthakbjdkcdppjaaForest
import Derived.Test.YthakbjdkcdppjaaMzB
namespace Go.Proofs.Ythakbjdkcdppjaa.perfP
open gridP gridQ bitP mazeP mazeQ reachP reachM reachN reachD forest
set_option linter.unusedVariables false

/-- Whether a maze is perfect. -/
def ipB (x y z : Int) : Bool := cnB x y z && cpZ x y z == x * y - 1
/-- The number of loops. -/
def clZ (x y z : Int) : Int := if OkM x y z then cpZ x y z - x * y + ptZ x y z else 0
/-- Whether the ends of a gap are in different parts. -/
def apB (x y z g : Int) : Bool := decide (dZ (stN x y z) (cN x y) (aN x y g.toNat) (bN x y g.toNat) < 0)
/-- Whether opening a gap would join two parts. -/
def wjB (x y z g : Int) : Bool := decide (OkM x y z ∧ 0 ≤ g ∧ g < gpsZ x y ∧ bitZ z g ≠ 1) && apB x y z g
/-- Whether a passage is a bridge. -/
def ibB (x y z g : Int) : Bool := psB x y z g && apB x y (z - 2 ^ g.toNat) g
/-- A gap is opened where it joins. -/
def kzS (x y z g : Int) : Int := if wjB x y z g = true then z + 2 ^ g.toNat else z
def kzL (x y : Int) : List Int → Int → Int
  | [], z => z
  | g :: l, z => kzL x y l (kzS x y z g)
theorem kzL_snoc (x y : Int) (g : Int) : ∀ (l : List Int) (z : Int), kzL x y (l ++ [g]) z = kzS x y (kzL x y l z) g
  | [], z => rfl
  | h :: l, z => by simp only [List.cons_append, kzL]; exact kzL_snoc x y g l _
/-- Whether an order is one of gaps. -/
def koB (x y : Int) (l : List Int) : Bool := decide (OkZ x y ∧ l.length ≤ 100 ∧ ∀ g ∈ l, 0 ≤ g ∧ g < gpsZ x y)
def kmX (x y : Int) (l : List Int) : Int := if koB x y l = true then x else 0
def kmY (x y : Int) (l : List Int) : Int := if koB x y l = true then y else 0
def kmZ (x y : Int) (l : List Int) : Int := if koB x y l = true then kzL x y l 0 else 0
def kmB (x y : Int) (l : List Int) : Bool := koB x y l && ipB x y (kzL x y l 0)

theorem cp_bd (x y z : Int) : 0 ≤ cpZ x y z ∧ cpZ x y z ≤ 24 := by
  unfold cpZ; split
  · have := pcN_le z.toNat 24; omega
  · omega
theorem pt_bd (x y z : Int) : 0 ≤ ptZ x y z ∧ ptZ x y z ≤ 16 := by
  unfold ptZ; split
  · rename_i h
    have h1 := cpN_le (stN x y z) (cN x y) (cN x y)
    have := (mul_bd x y h.1.1 h.1.2.1 h.1.2.2.1 h.1.2.2.2).1
    unfold cN at h1 ⊢; omega
  · omega

section
variable {x y : Int}
theorem ps_bt {o g : Nat} (hk : OkZ x y) (ho : o < 2 ^ gN x y) (hg : g < gN x y) : psB x y o g = true ↔ bt o g = 1 := by
  unfold psB
  rw [decide_eq_true_iff, bitZ_bt (by omega) (by omega)]
  simp only [Int.toNat_natCast]
  unfold gN at hg
  refine ⟨fun h => by omega, fun h => ⟨okm hk ho, by omega, by omega, by omega⟩⟩
theorem ap_cn {o g : Nat} (hk : OkZ x y) (hg : g < gN x y) : apB x y o g = true ↔ ¬ Cn x y o (aN x y g) (bN x y g) := by
  obtain ⟨hab, hbN, -, -⟩ := ends_lt hk hg
  unfold apB
  rw [decide_eq_true_iff, Int.toNat_natCast, ← cn_iff (show aN x y g < cN x y by omega)]
  omega
theorem wj_iff {o g : Nat} (hk : OkZ x y) (ho : o < 2 ^ gN x y) (hg : g < gN x y) : wjB x y o g = true ↔ bt o g = 0 ∧ ¬ Cn x y o (aN x y g) (bN x y g) := by
  unfold wjB
  rw [Bool.and_eq_true, ap_cn hk hg, decide_eq_true_iff, bitZ_bt (by omega) (by omega)]
  simp only [Int.toNat_natCast]
  have := bt_le o g
  unfold gN at hg
  refine ⟨fun ⟨h, h'⟩ => ⟨by omega, h'⟩, fun ⟨h, h'⟩ => ⟨⟨okm hk ho, by omega, by omega, by omega⟩, h'⟩⟩
theorem ib_iff {o g : Nat} (hk : OkZ x y) (ho : o < 2 ^ gN x y) (hg : g < gN x y) : ibB x y o g = true ↔ bt o g = 1 ∧ ¬ Cn x y (o - 2 ^ g : Nat) (aN x y g) (bN x y g) := by
  unfold ibB
  rw [Bool.and_eq_true, ps_bt hk ho hg]
  refine and_congr_right fun hb => ?_
  have := (bt_take hb).1
  rw [show ((o : Int) - 2 ^ (g : Int).toNat) = ((o - 2 ^ g : Nat) : Int) by rw [Int.natCast_sub this]; simp]
  exact ap_cn hk hg
theorem cp_pc {o : Nat} (hk : OkZ x y) (ho : o < 2 ^ gN x y) : cpZ x y o = ((pcN o (gN x y) : Nat) : Int) := by
  have hv := okm hk ho
  have := pc_all hv
  unfold cpZ
  rw [if_pos hv, ← this]
  simp [gN]
theorem pt_pt {o : Nat} (hk : OkZ x y) (ho : o < 2 ^ gN x y) : ptZ x y o = ((pt x y o : Nat) : Int) := by unfold ptZ pt; rw [if_pos (okm hk ho)]
theorem nn (hk : OkZ x y) : x * y = (cN x y : Int) ∧ 1 ≤ cN x y ∧ cN x y ≤ 16 := by
  obtain ⟨h1, h2, h3, h4⟩ := hk
  have := (mul_bd x y h1 h2 h3 h4).1
  unfold cN; omega
theorem cl_lp {o : Nat} (hk : OkZ x y) (ho : o < 2 ^ gN x y) : clZ x y o = lp x y o := by
  unfold clZ lp
  rw [if_pos (okm hk ho), cp_pc hk ho, pt_pt hk ho, (nn hk).1]

/-- What the law of perfect mazes asks. -/
theorem perfects {z : Int} (hv : OkM x y z) : 0 ≤ clZ x y z ∧ 1 ≤ ptZ x y z ∧ ((∀ g : Nat, (g : Int) < gpsZ x y → psB x y z g = true → ibB x y z g = true) ↔ clZ x y z = 0) ∧ ipB x y z = (cnB x y z && (clZ x y z == 0)) := by
  obtain ⟨hk, o, rfl, ho⟩ := okm_of hv
  obtain ⟨n1, n2, n3⟩ := nn hk
  have hp : 1 ≤ pt x y o := cpN_pos _ _ _ (by omega)
  rw [cl_lp hk ho, pt_pt hk ho]
  have hlp := lp_pos hk ho
  refine ⟨hlp, by omega, ?_, ?_⟩
  · rw [← all_bridges hk ho]
    refine ⟨fun h g hg hb => ?_, fun h g hg hp => ?_⟩
    · exact ((ib_iff hk ho hg).1 (h g (by unfold gN at hg; omega) ((ps_bt hk ho hg).2 hb))).2
    · have hg' : g < gN x y := by unfold gN; omega
      have hb := (ps_bt hk ho hg').1 hp
      exact (ib_iff hk ho hg').2 ⟨hb, h g hg' hb⟩
  · unfold ipB cnB
    rw [pt_pt hk ho, cp_pc hk ho, n1]
    unfold lp
    rw [Bool.eq_iff_iff]
    simp only [Bool.and_eq_true, beq_iff_eq]
    omega

/-- Whether the passages among the first gaps are all bridges. -/
def allN (x y z : Int) : Nat → Bool
  | 0 => true
  | k + 1 => allN x y z k && (!psB x y z k || ibB x y z k)
theorem allN_iff (x y z : Int) : ∀ n, allN x y z n = true ↔ ∀ g, g < n → psB x y z g = true → ibB x y z g = true
  | 0 => by simp [allN]
  | n + 1 => by
    unfold allN
    rw [Bool.and_eq_true, allN_iff x y z n]
    refine ⟨fun ⟨h1, h2⟩ g hg hp => ?_, fun h => ⟨fun g hg => h g (by omega), ?_⟩⟩
    · rcases Nat.lt_or_ge g n with h' | h'
      · exact h1 g h' hp
      · obtain rfl : g = n := by omega
        rw [hp] at h2; simpa using h2
    · have := h n (by omega)
      cases hp : psB x y z n with
      | false => rfl
      | true => simp [this hp]
theorem all_is {z : Int} (hv : OkM x y z) : allN x y z (gN x y) = (clZ x y z == 0) := by
  rw [Bool.eq_iff_iff, allN_iff, beq_iff_eq, ← (perfects hv).2.2.1]
  have hb := gps_bd hv.1.1 hv.1.2.1 hv.1.2.2.1 hv.1.2.2.2
  unfold gN
  exact ⟨fun h g hg => h g (by omega), fun h g hg => h g (by omega)⟩

theorem kz_step {o : Nat} {g : Int} (hk : OkZ x y) (ho : o < 2 ^ gN x y) (hl : lp x y o = 0) (hg : 0 ≤ g ∧ g < gpsZ x y) :
    ∃ o' : Nat, kzS x y o g = (o' : Int) ∧ o' < 2 ^ gN x y ∧ lp x y o' = 0 ∧ (∀ j, j < gN x y → bt o j = 1 → bt o' j = 1) ∧ Cn x y o' (aN x y g.toNat) (bN x y g.toNat) := by
  obtain ⟨k, rfl⟩ := Int.eq_ofNat_of_zero_le hg.1
  have hk' : k < gN x y := by unfold gN; omega
  rw [Int.toNat_natCast]
  unfold kzS
  by_cases hw : wjB x y o k = true
  · rw [if_pos hw]
    obtain ⟨h0, hc⟩ := (wj_iff hk ho hk').1 hw
    have hlt := add_lt ho hk' h0
    refine ⟨o + 2 ^ k, by simp, hlt, by rw [(lp_add hk ho hk' h0).2 hc]; exact hl, fun j hj h => ?_, cn_gap (okm hk hlt) hk' (by rw [bt_add h0, if_pos rfl])⟩
    rw [bt_add h0]; split
    · rfl
    · exact h
  · rw [if_neg hw]
    refine ⟨o, rfl, ho, hl, fun _ _ h => h, ?_⟩
    rw [wj_iff hk ho hk'] at hw
    by_cases hb : bt o k = 1
    · exact cn_gap (okm hk ho) hk' hb
    · have := bt_le o k
      exact Classical.byContradiction fun hc => hw ⟨by omega, hc⟩
theorem kz_all (hk : OkZ x y) : ∀ (l : List Int) (o : Nat), o < 2 ^ gN x y → lp x y o = 0 → (∀ g ∈ l, 0 ≤ g ∧ g < gpsZ x y) →
    ∃ o' : Nat, kzL x y l o = (o' : Int) ∧ o' < 2 ^ gN x y ∧ lp x y o' = 0 ∧ (∀ j, j < gN x y → bt o j = 1 → bt o' j = 1) ∧ ∀ g ∈ l, Cn x y o' (aN x y g.toNat) (bN x y g.toNat)
  | [], o, ho, hl, _ => ⟨o, rfl, ho, hl, fun _ _ h => h, fun g hg => by cases hg⟩
  | g :: l, o, ho, hl, hg => by
    obtain ⟨o1, e1, h1, l1, m1, c1⟩ := kz_step hk ho hl (hg g (by simp))
    obtain ⟨o2, e2, h2, l2, m2, c2⟩ := kz_all hk l o1 h1 l1 fun g' hg' => hg g' (by simp [hg'])
    refine ⟨o2, by rw [kzL, e1, e2], h2, l2, fun j hj h => m2 j hj (m1 j hj h), fun g' hg' => ?_⟩
    rcases List.mem_cons.1 hg' with rfl | h'
    · exact cn_mono (okm hk h1) (okm hk h2) m2 c1
    · exact c2 g' h'
/-- What a row of gaps makes is a maze. -/
theorem kz_ok {l : List Int} (hk : OkZ x y) (hg : ∀ g ∈ l, 0 ≤ g ∧ g < gpsZ x y) : OkM x y (kzL x y l 0) := by
  obtain ⟨o, e, h, -⟩ := kz_all hk l 0 (Nat.pow_pos (by decide)) (lp_none hk) hg
  rw [show (0 : Int) = ((0 : Nat) : Int) from rfl, e]
  exact okm hk h
/-- What the law of orders asks. -/
theorem kruskals {l : List Int} (hk : OkZ x y) (hg : ∀ g ∈ l, 0 ≤ g ∧ g < gpsZ x y) (hall : ∀ j : Nat, (j : Int) < gpsZ x y → (j : Int) ∈ l) :
    (∀ g : Nat, (g : Int) < gpsZ x y → wjB x y (kzL x y l 0) g = false) ∧ ipB x y (kzL x y l 0) = true ∧ ∀ g, l[0]? = some g → psB x y (kzL x y l 0) g = true := by
  obtain ⟨o, e, ho, hl, hm, hc⟩ := kz_all hk l 0 (Nat.pow_pos (by decide)) (lp_none hk) hg
  rw [show (0 : Int) = ((0 : Nat) : Int) from rfl, e]
  have hcc : ∀ g, g < gN x y → Cn x y o (aN x y g) (bN x y g) := fun g hg' => by
    have := hc g (hall g (by unfold gN at hg'; omega))
    simpa using this
  have h1 := one_of_gaps hk hcc
  obtain ⟨n1, n2, n3⟩ := nn hk
  refine ⟨fun g hg' => ?_, ?_, fun g hg' => ?_⟩
  · rw [← Bool.not_eq_true, wj_iff hk ho (by unfold gN; omega)]
    exact fun h => h.2 (hcc g (by unfold gN; omega))
  · unfold ipB cnB
    rw [pt_pt hk ho, cp_pc hk ho, n1, h1]
    unfold lp at hl
    simp only [Bool.and_eq_true, beq_iff_eq]
    omega
  · cases l with
    | nil => cases hg'
    | cons g0 l =>
      obtain rfl : g0 = g := by simpa using hg'
      obtain ⟨g0', hgl⟩ := hg g0 (by simp)
      obtain ⟨k, rfl⟩ := Int.eq_ofNat_of_zero_le g0'
      have hk' : k < gN x y := by unfold gN; omega
      have h0 : (0 : Nat) < 2 ^ gN x y := Nat.pow_pos (by decide)
      have hb0 : bt 0 k = 0 := by simp [bt]
      have hw : wjB x y ((0 : Nat) : Int) k = true := (wj_iff hk h0 hk').2 ⟨hb0, fun hcn => by
        have hab := (ends_lt hk hk').1
        have : aN x y k = bN x y k := cn_ind (E := fun u v => u = v) (okm hk h0) (fun _ => rfl) (fun _ _ e => e.symm) (fun _ _ _ e e' => e.trans e') (fun g _ hb => by simp [bt] at hb) hcn
        omega⟩
      obtain ⟨o1, e1, h1', l1, -, -⟩ := kz_step hk h0 (lp_none hk) ⟨g0', hgl⟩
      obtain ⟨o2, e2, h2, -, m2, -⟩ := kz_all hk l o1 h1' l1 fun g' hg'' => hg g' (by simp [hg''])
      have ho1 : o1 = 2 ^ k := by
        unfold kzS at e1; rw [if_pos hw] at e1
        simp at e1
        exact_mod_cast e1.symm
      rw [kzL, e1, e2] at e
      obtain rfl : o2 = o := by omega
      exact (ps_bt hk ho hk').2 (m2 k hk' (by rw [ho1]; have := bt_add hb0 k; simpa using this))
end
end Go.Proofs.Ythakbjdkcdppjaa.perfP
