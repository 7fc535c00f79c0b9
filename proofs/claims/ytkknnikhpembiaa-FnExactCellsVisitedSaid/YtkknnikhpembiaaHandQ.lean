/- What the functions on the right hand answer, and what their law asks. -/
import Derived.Test.YtkknnikhpembiaaHandP
import Derived.Test.YtkknnikhpembiaaDeadR
namespace Go.Proofs.Ytkknnikhpembiaa.handQ
open gridP gridQ bitP mazeP mazeQ reachP reachM reachN reachD forest deadP deadQ deadR handP
set_option linter.unusedVariables false

theorem least_ex {P : Nat → Prop} : ∀ n, P n → ∃ m, P m ∧ ∀ j, j < m → ¬ P j := by
  intro n
  induction n using Nat.strongRecOn with
  | ind n ih =>
    intro h
    by_cases h' : ∃ j, j < n ∧ P j
    · obtain ⟨j, hj, hp⟩ := h'
      exact ih j hj hp
    · exact ⟨n, h, fun j hj hp => h' ⟨j, hj, hp⟩⟩

section
variable {x y : Int}
/-- All cells of a perfect maze are connected. -/
theorem perf_cn {o a b : Nat} (hp : pt x y o = 1) (ha : a < cN x y) (hb : b < cN x y) : Cn x y o a b := by
  obtain ⟨l, h1, h2, h3, -⟩ := least_of (x := x) (y := y) (o := o) ha
  obtain ⟨l', h1', h2', h3', -⟩ := least_of (x := x) (y := y) (o := o) hb
  have hone : cnt (isLeast (stN x y o) (cN x y)) (cN x y) ≤ 1 := by
    have : pt x y o = cnt (isLeast (stN x y o) (cN x y)) (cN x y) := by unfold pt; exact cp_cnt _ _ _
    omega
  have := cnt_one hone (show l < cN x y by omega) (show l' < cN x y by omega) h3 h3'
  subst this
  exact cn_trans h2 (cn_symm h2')
/-- The arrivals, as numbers. -/
def arB (st : Nat → Nat → Int) (u : Nat) : Bool := decide (0 ≤ st (u / 4) ((u % 4 + 2) % 4))
theorem ar_cnt (o : Nat) : ∀ n, cnt (arB (stN x y o)) (4 * n) = smN (dg x y o) n
  | 0 => rfl
  | n + 1 => by
    rw [show 4 * (n + 1) = 4 * n + 1 + 1 + 1 + 1 by omega]
    unfold smN
    rw [← ar_cnt o n]
    have e0 : arB (stN x y o) (4 * n) = decide (0 ≤ stN x y o n 2) := by unfold arB; rw [show 4 * n / 4 = n by omega, show (4 * n % 4 + 2) % 4 = 2 by omega]
    have e1 : arB (stN x y o) (4 * n + 1) = decide (0 ≤ stN x y o n 3) := by unfold arB; rw [show (4 * n + 1) / 4 = n by omega, show ((4 * n + 1) % 4 + 2) % 4 = 3 by omega]
    have e2 : arB (stN x y o) (4 * n + 1 + 1) = decide (0 ≤ stN x y o n 0) := by unfold arB; rw [show (4 * n + 1 + 1) / 4 = n by omega, show ((4 * n + 1 + 1) % 4 + 2) % 4 = 0 by omega]
    have e3 : arB (stN x y o) (4 * n + 1 + 1 + 1) = decide (0 ≤ stN x y o n 1) := by unfold arB; rw [show (4 * n + 1 + 1 + 1) / 4 = n by omega, show ((4 * n + 1 + 1 + 1) % 4 + 2) % 4 = 1 by omega]
    have hd : dg x y o n = (if decide (0 ≤ stN x y o n 0) = true then 1 else 0) + (if decide (0 ≤ stN x y o n 1) = true then 1 else 0) + (if decide (0 ≤ stN x y o n 2) = true then 1 else 0) + (if decide (0 ≤ stN x y o n 3) = true then 1 else 0) := by
      unfold dg; simp only [cnt]; omega
    rw [hd]
    simp only [cnt, e0, e1, e2, e3]
    omega
theorem it_inj {o : Nat} {s : Nat × Nat} (h : Ar (stN x y o) s) : ∀ i j, i ≤ j → it (mv (stN x y o)) i s = it (mv (stN x y o)) j s → it (mv (stN x y o)) (j - i) s = s
  | 0, j, _, e => by rw [Nat.sub_zero]; exact e.symm
  | i + 1, j, hij, e => by
    obtain ⟨j', rfl⟩ : ∃ j', j = j' + 1 := ⟨j - 1, by omega⟩
    rw [it_succ, it_succ] at e
    have := it_inj h i j' (by omega) (mv_inj (it_ar h i) (it_ar h j') e)
    rw [show j' + 1 - (i + 1) = j' - i by omega]; exact this
theorem it_back (f : Nat × Nat → Nat × Nat) {p : Nat} {s : Nat × Nat} (h : it f p s = s) : ∀ m, it f (p * m) s = s
  | 0 => rfl
  | m + 1 => by rw [Nat.mul_succ, it_add, it_back f h m, h]
theorem it_mod (f : Nat × Nat → Nat × Nat) {p : Nat} {s : Nat × Nat} (h : it f p s = s) (k : Nat) : it f (k % p) s = it f k s := by
  conv => rhs; rw [← Nat.div_add_mod k p, it_add, it_back f h]
theorem it_cell {o : Nat} {s : Nat × Nat} (hs : s.1 < cN x y) (h : Ar (stN x y o) s) : ∀ k, (it (mv (stN x y o)) k s).1 < cN x y
  | 0 => hs
  | k + 1 => by
    rw [it_succ]
    obtain ⟨-, h1, -⟩ := mv_step (it_ar h k).1 (ar_way (it_ar h k))
    exact stN_lt _ _ _ h1
/-- In a perfect maze, a walker is back after twice the passages, not earlier, and has been everywhere. -/
theorem round {o : Nat} (hk : OkZ x y) (ho : o < 2 ^ gN x y) (hl : lp x y o = 0) (hp : pt x y o = 1) (hN : 2 ≤ cN x y) {s : Nat × Nat} (hs : s.1 < cN x y) (h : Ar (stN x y o) s) :
    it (mv (stN x y o)) (2 * (cN x y - 1)) s = s ∧ (∀ k, 0 < k → k < 2 * (cN x y - 1) → it (mv (stN x y o)) k s ≠ s) ∧ ∀ u, u < cN x y → ∃ k, k < 2 * (cN x y - 1) ∧ (it (mv (stN x y o)) k s).1 = u := by
  have hall : ∀ t : Nat × Nat, t.1 < cN x y → Ar (stN x y o) t → ∀ u : Nat × Nat, u.1 < cN x y → Ar (stN x y o) u → ∃ k, it (mv (stN x y o)) k u = t := fun t ht hta u hu hua =>
    orbit hk (pcN o (gN x y)) o ho (Nat.le_refl _) hl u t hu ht hua hta (perf_cn hp hu ht)
  have hm := mv_ar h.1 (ar_way h)
  have hmN : (mv (stN x y o) s).1 < cN x y := it_cell hs h 1
  obtain ⟨k0, e0⟩ := hall s hs h _ hmN hm
  obtain ⟨p', hp', hmin⟩ := least_ex (P := fun n => it (mv (stN x y o)) (n + 1) s = s) k0 e0
  have hcov : ∀ t : Nat × Nat, t.1 < cN x y → Ar (stN x y o) t → ∃ k, k < p' + 1 ∧ it (mv (stN x y o)) k s = t := fun t ht hta => by
    obtain ⟨k, e⟩ := hall t ht hta s hs h
    exact ⟨k % (p' + 1), Nat.mod_lt _ (by omega), by rw [it_mod _ hp' k]; exact e⟩
  have hdist : ∀ i j, i < p' + 1 → j < p' + 1 → it (mv (stN x y o)) i s = it (mv (stN x y o)) j s → i = j := fun i j hi hj e => by
    rcases Nat.lt_trichotomy i j with hlt | he | hlt
    · have := it_inj h i j (by omega) e
      obtain ⟨d, hd⟩ : ∃ d, j - i = d + 1 := ⟨j - i - 1, by omega⟩
      rw [hd] at this
      exact absurd this (hmin d (by omega))
    · exact he
    · have := it_inj h j i (by omega) e.symm
      obtain ⟨d, hd⟩ : ∃ d, i - j = d + 1 := ⟨i - j - 1, by omega⟩
      rw [hd] at this
      exact absurd this (hmin d (by omega))
  have hcnt : cnt (arB (stN x y o)) (4 * cN x y) = p' + 1 := by
    refine cnt_img (fun i => 4 * (it (mv (stN x y o)) i s).1 + (it (mv (stN x y o)) i s).2) (fun u hu => ⟨fun hb => ?_, fun ⟨i, hi, e⟩ => ?_⟩) (fun i j hi hj e => ?_) (fun i hi => ?_)
    · obtain ⟨k, hk', e⟩ := hcov (u / 4, u % 4) (by show u / 4 < _; omega) ⟨Nat.mod_lt _ (by decide), of_decide_eq_true hb⟩
      exact ⟨k, hk', by simp only [e]; omega⟩
    · have ha := it_ar h i
      have h2 := ha.1
      subst e
      unfold arB
      rw [show (4 * (it (mv (stN x y o)) i s).1 + (it (mv (stN x y o)) i s).2) / 4 = (it (mv (stN x y o)) i s).1 by omega, show (4 * (it (mv (stN x y o)) i s).1 + (it (mv (stN x y o)) i s).2) % 4 = (it (mv (stN x y o)) i s).2 by omega]
      exact decide_eq_true ha.2
    · have hi2 := (it_ar h i).1
      have hj2 := (it_ar h j).1
      exact hdist i j hi hj (Prod.ext (by omega) (by omega))
    · have hi2 := (it_ar h i).1
      have := it_cell hs h i
      omega
  have hpN : p' + 1 = 2 * (cN x y - 1) := by
    rw [ar_cnt, dg_sum hk ho] at hcnt
    unfold lp at hl
    omega
  refine ⟨by rw [← hpN]; exact hp', fun k h0 h1 e => ?_, fun u hu => ?_⟩
  · obtain ⟨d, rfl⟩ : ∃ d, k = d + 1 := ⟨k - 1, by omega⟩
    exact hmin d (by omega) e
  · -- a cell has a passage
    obtain ⟨w, hw, hne⟩ : ∃ w, w < cN x y ∧ w ≠ u := by
      by_cases hu0 : u = 0
      · exact ⟨1, by omega, by omega⟩
      · exact ⟨0, by omega, by omega⟩
    have hway : ∃ q, q < 4 ∧ 0 ≤ stN x y o u q := by
      obtain ⟨n, hwk⟩ := perf_cn hp hw hu
      cases hwk with
      | zero => exact absurd rfl hne
      | step h' hq' hs' => exact ⟨_, Nat.mod_lt _ (by decide), by rw [stN_back2 hs']; omega⟩
    obtain ⟨q, hq, h0⟩ := hway
    obtain ⟨k, hk', e⟩ := hcov (u, (q + 2) % 4) hu ⟨Nat.mod_lt _ (by decide), by show 0 ≤ stN x y o u (((q + 2) % 4 + 2) % 4); rw [show ((q + 2) % 4 + 2) % 4 = q by omega]; exact h0⟩
    exact ⟨k, by omega, by rw [e]⟩
theorem perf_way {o u : Nat} (hp : pt x y o = 1) (hN : 2 ≤ cN x y) (hu : u < cN x y) : ∃ q, q < 4 ∧ 0 ≤ stN x y o u q := by
  obtain ⟨w, hw, hne⟩ : ∃ w, w < cN x y ∧ w ≠ u := by
    by_cases hu0 : u = 0
    · exact ⟨1, by omega, by omega⟩
    · exact ⟨0, by omega, by omega⟩
  obtain ⟨n, hwk⟩ := perf_cn hp hw hu
  cases hwk with
  | zero => exact absurd rfl hne
  | step h' hq' hs' => exact ⟨_, Nat.mod_lt _ (by decide), by rw [stN_back2 hs']; omega⟩
end

/-! ### the functions' answers -/
/-- One move of a walker. -/
def hsP (st : Nat → Nat → Int) (s : Nat × Nat) : Nat × Nat := if opB st s.1 (nx (opB st s.1) ((s.2 + 1) % 4)) = true then mv st s else (s.1, (s.2 + 2) % 4)
def waB (x y z c f : Int) : Bool := hasB x y z c && decide (0 ≤ f ∧ f ≤ 3)
/-- The walker after k moves. -/
def hkN (x y z c f : Int) (k : Nat) : Nat × Nat := it (hsP (stN x y z)) k (c.toNat, f.toNat)
def hsC (x y z c f : Int) : Int := if waB x y z c f = true then ((hkN x y z c f 1).1 : Int) else c
def hsF (x y z c f : Int) : Int := if waB x y z c f = true then ((hkN x y z c f 1).2 : Int) else f
/-- The walker and the walker after each of n moves. -/
def hwL (x y z c f n : Int) : List (Nat × Nat) := if waB x y z c f = true ∧ 0 ≤ n ∧ n ≤ 200 then (List.range (n.toNat + 1)).map (hkN x y z c f) else []
def hcZ (x y z c f : Int) : Int := if waB x y z c f = true then (((List.range 200).find? fun k => hkN x y z c f (k + 1) == hkN x y z c f 0).map fun k => (k : Int) + 1).getD 0 else 0
def hrB (x y z c f g : Int) : Bool := (hwL x y z c f 200).any fun s => (s.1 : Int) == g
def cvB (x y z c f : Int) (k : Nat) : Bool := hrB x y z c f k
def cvL (x y z c f : Int) : List Int := clN (cvB x y z c f) (if OkZ x y then cN x y else 0)

theorem hc_is {x y z c f : Int} {k : Nat} (hw : waB x y z c f = true) (hk : k < 200) (h : hkN x y z c f (k + 1) = hkN x y z c f 0) (hm : ∀ j, j < k → hkN x y z c f (j + 1) ≠ hkN x y z c f 0) : hcZ x y z c f = (k : Int) + 1 := by
  unfold hcZ
  rw [if_pos hw]
  have : (List.range 200).find? (fun k => hkN x y z c f (k + 1) == hkN x y z c f 0) = some k := by
    rw [List.find?_range_eq_some]
    refine ⟨by simpa using h, by simpa using hk, fun j hj => ?_⟩
    simpa using hm j hj
  rw [this]; rfl
theorem hc_none {x y z c f : Int} (h : ∀ j, j < 200 → hkN x y z c f (j + 1) ≠ hkN x y z c f 0) : hcZ x y z c f = 0 := by
  unfold hcZ
  split
  · have : (List.range 200).find? (fun k => hkN x y z c f (k + 1) == hkN x y z c f 0) = none := by
      rw [List.find?_eq_none]
      intro k hk
      have := h k (List.mem_range.1 hk)
      simpa using this
    rw [this]; rfl
  · rfl

section
variable {x y : Int}
theorem hs_way {o : Nat} {s : Nat × Nat} (hw : ∃ q, q < 4 ∧ 0 ≤ stN x y o s.1 q) : hsP (stN x y o) s = mv (stN x y o) s := by
  obtain ⟨q, hq, h0⟩ := hw
  unfold hsP
  rw [if_pos (nx_on _ (Nat.mod_lt _ (by decide)) hq (decide_eq_true h0))]
theorem hs_none {o : Nat} {s : Nat × Nat} (hw : ∀ q, q < 4 → ¬ 0 ≤ stN x y o s.1 q) : hsP (stN x y o) s = (s.1, (s.2 + 2) % 4) := by
  unfold hsP
  rw [if_neg]
  intro h
  exact hw _ (nx_lt _ (Nat.mod_lt _ (by decide))) (of_decide_eq_true h)
theorem it_hs {o : Nat} {s : Nat × Nat} (h : Ar (stN x y o) s) : ∀ k, it (hsP (stN x y o)) k s = it (mv (stN x y o)) k s
  | 0 => rfl
  | k + 1 => by rw [it_succ, it_succ, it_hs h k, hs_way (ar_way (it_ar h k))]
/-- What the law of hands asks, in a maze of several cells. -/
theorem hands {o c f : Nat} (hk : OkZ x y) (ho : o < 2 ^ gN x y) (hl : lp x y o = 0) (hp : pt x y o = 1) (hN : 2 ≤ cN x y) (hc : c < cN x y) (hf : f < 4) :
    hcZ x y o (hsC x y o c f) (hsF x y o c f) = 2 * ((cN x y : Int) - 1) ∧ (∀ g, g < cN x y → hrB x y o c f g = true) ∧ (cvL x y o c f).length = cN x y ∧ (hwL x y o c f 5).length = 6 := by
  have hv := okm hk ho
  have hNN := (nn3 hk).1
  have hN16 := (nn3 hk).2.2
  have hwk : ∀ {c f : Nat}, c < cN x y → f < 4 → waB x y o c f = true := fun hc hf => by
    unfold waB hasB
    rw [decide_eq_true ⟨hv, by omega, by omega⟩, decide_eq_true ⟨by omega, by omega⟩]; rfl
  have hway := perf_way hp hN hc
  have h1 : hkN x y o c f 1 = mv (stN x y o) (c, f) := by
    show hsP (stN x y o) ((c : Int).toNat, (f : Int).toNat) = _
    rw [Int.toNat_natCast, Int.toNat_natCast]
    exact hs_way (s := (c, f)) hway
  have hAr : Ar (stN x y o) (mv (stN x y o) (c, f)) := mv_ar (s := (c, f)) hf hway
  have hM : (mv (stN x y o) (c, f)).1 < cN x y := by
    obtain ⟨-, h2, -⟩ := mv_step (o := o) (s := (c, f)) hf hway
    exact stN_lt _ _ _ h2
  obtain ⟨r1, r2, r3⟩ := round hk ho hl hp hN hM hAr
  have hreach : ∀ g, g < cN x y → hrB x y o c f g = true := fun g hg => by
    obtain ⟨k, hk', e⟩ := r3 g hg
    unfold hrB hwL
    rw [if_pos ⟨hwk hc hf, by omega, by omega⟩, List.any_eq_true]
    refine ⟨hkN x y o c f (k + 1), List.mem_map.2 ⟨k + 1, List.mem_range.2 (by show k + 1 < 201; omega), rfl⟩, ?_⟩
    have : hkN x y o c f (k + 1) = it (mv (stN x y o)) k (mv (stN x y o) (c, f)) := by
      rw [← it_hs hAr, ← h1]; rfl
    rw [this, e]; simp
  refine ⟨?_, hreach, ?_, ?_⟩
  · have e1 : hsC x y o c f = ((mv (stN x y o) (c, f)).1 : Int) := by unfold hsC; rw [if_pos (hwk hc hf), h1]
    have e2 : hsF x y o c f = ((mv (stN x y o) (c, f)).2 : Int) := by unfold hsF; rw [if_pos (hwk hc hf), h1]
    rw [e1, e2]
    have hk0 : ∀ k, hkN x y o ((mv (stN x y o) (c, f)).1 : Int) ((mv (stN x y o) (c, f)).2 : Int) k = it (mv (stN x y o)) k (mv (stN x y o) (c, f)) := fun k => by
      unfold hkN
      rw [Int.toNat_natCast, Int.toNat_natCast]
      exact it_hs hAr k
    obtain ⟨p, hpp⟩ : ∃ p, 2 * (cN x y - 1) = p + 1 := ⟨2 * (cN x y - 1) - 1, by omega⟩
    rw [hc_is (k := p) (hwk hM hAr.1) (by omega) (by rw [hk0, hk0, ← hpp]; exact r1) fun j hj => by rw [hk0, hk0]; exact r2 (j + 1) (by omega) (by omega)]
    omega
  · unfold cvL
    rw [if_pos hk, clN_len, cnt_all]
    exact fun k hk' => hreach k hk'
  · unfold hwL
    rw [if_pos ⟨hwk hc hf, by omega, by omega⟩, List.length_map, List.length_range]; rfl
/-- .. in a maze of one cell. -/
theorem hands_one {o c f : Nat} (hk : OkZ x y) (ho : o < 2 ^ gN x y) (hN : cN x y = 1) (hc : c < cN x y) (hf : f < 4) : hcZ x y o c f = 2 ∧ hsC x y o c f = (c : Int) := by
  have hv := okm hk ho
  have hNN := (nn3 hk).1
  have hw : waB x y o c f = true := by
    unfold waB hasB
    rw [decide_eq_true ⟨hv, by omega, by omega⟩, decide_eq_true ⟨by omega, by omega⟩]; rfl
  have hno : ∀ u, u < cN x y → ∀ q, q < 4 → ¬ 0 ≤ stN x y o u q := fun u hu q hq h => by
    obtain ⟨v, hv'⟩ := Int.eq_ofNat_of_zero_le h
    have h1 := stN_lt _ _ _ hv'
    have h2 := st_ne hv'
    omega
  have h1 : hsP (stN x y o) (c, f) = (c, (f + 2) % 4) := hs_none (s := (c, f)) (hno c hc)
  have h2 : hsP (stN x y o) (c, (f + 2) % 4) = (c, f) := by
    rw [hs_none (s := (c, (f + 2) % 4)) (hno c hc)]
    exact Prod.ext rfl (by show ((f + 2) % 4 + 2) % 4 = f; omega)
  have e0 : hkN x y o c f 0 = (c, f) := by unfold hkN; rw [Int.toNat_natCast, Int.toNat_natCast]; rfl
  have e1 : hkN x y o c f 1 = (c, (f + 2) % 4) := by
    unfold hkN; rw [Int.toNat_natCast, Int.toNat_natCast]; exact h1
  have e2 : hkN x y o c f 2 = (c, f) := by
    unfold hkN; rw [Int.toNat_natCast, Int.toNat_natCast]
    show hsP _ (hsP _ (c, f)) = _
    rw [h1, h2]
  refine ⟨?_, ?_⟩
  · rw [hc_is (k := 1) hw (by decide) (by rw [e2, e0]) fun j hj => by
      obtain rfl : j = 0 := by omega
      rw [e1, e0]
      intro h
      have := congrArg Prod.snd h
      simp only at this
      omega]
    rfl
  · unfold hsC; rw [if_pos hw, e1]
end

/-- The walkers of a walk, as integers. -/
def iwP (s : Nat × Nat) : Int × Int := ((s.1 : Int), (s.2 : Int))
def hwI (x y z c f n : Int) : List (Int × Int) := (hwL x y z c f n).map iwP
theorem hs_ok {x y z : Int} {s : Nat × Nat} (hs : s.1 < cN x y) (h2 : s.2 < 4) : (hsP (stN x y z) s).1 < cN x y ∧ (hsP (stN x y z) s).2 < 4 := by
  unfold hsP
  split
  · rename_i h
    have h0 := of_decide_eq_true h
    have hl := nx_lt (opB (stN x y z) s.1) (e := (s.2 + 1) % 4) (Nat.mod_lt _ (by decide))
    refine ⟨?_, hl⟩
    unfold mv
    simp only
    exact stN_lt _ _ _ (by rw [Int.toNat_of_nonneg h0])
  · exact ⟨hs, Nat.mod_lt _ (by decide)⟩
theorem wa_iff {x y z : Int} (hv : OkM x y z) {c f : Nat} : waB x y z c f = true ↔ c < cN x y ∧ f < 4 := by
  have hNN := (nn3 hv.1).1
  unfold waB hasB
  rw [Bool.and_eq_true, decide_eq_true_iff, decide_eq_true_iff]
  refine ⟨fun ⟨⟨_, a, b⟩, c', d⟩ => ⟨by omega, by omega⟩, fun ⟨a, b⟩ => ⟨⟨hv, by omega, by omega⟩, by omega, by omega⟩⟩
theorem wa_form {x y z c f : Int} (h : waB x y z c f = true) : OkM x y z ∧ ∃ c' f' : Nat, c = c' ∧ f = f' ∧ c' < cN x y ∧ f' < 4 := by
  have h' := h
  unfold waB at h
  rw [Bool.and_eq_true] at h
  obtain ⟨h1, h2⟩ := h
  have h3 := of_decide_eq_true h1
  have h4 := of_decide_eq_true h2
  obtain ⟨hv, h5, h6⟩ := h3
  refine ⟨hv, c.toNat, f.toNat, by omega, by omega, ?_⟩
  have := (wa_iff hv (c := c.toNat) (f := f.toNat)).1 (by rw [show ((c.toNat : Nat) : Int) = c by omega, show ((f.toNat : Nat) : Int) = f by omega]; exact h')
  exact this
/-- A walk goes on by a step. -/
theorem hk_step {x y z c f : Int} (h : waB x y z c f = true) (k : Nat) : waB x y z (hkN x y z c f k).1 (hkN x y z c f k).2 = true ∧
    hsC x y z (hkN x y z c f k).1 (hkN x y z c f k).2 = ((hkN x y z c f (k + 1)).1 : Int) ∧ hsF x y z (hkN x y z c f k).1 (hkN x y z c f k).2 = ((hkN x y z c f (k + 1)).2 : Int) := by
  obtain ⟨hv, c', f', rfl, rfl, hc, hf⟩ := wa_form h
  have hok : ∀ k, (hkN x y z c' f' k).1 < cN x y ∧ (hkN x y z c' f' k).2 < 4 := fun k => by
    induction k with
    | zero => unfold hkN; rw [Int.toNat_natCast, Int.toNat_natCast]; exact ⟨hc, hf⟩
    | succ k ih =>
      have e : hkN x y z c' f' (k + 1) = hsP (stN x y z) (hkN x y z c' f' k) := it_succ _ _ _
      rw [e]; exact hs_ok ih.1 ih.2
  have hw := (wa_iff hv).2 (hok k)
  have e : hkN x y z c' f' (k + 1) = hsP (stN x y z) (hkN x y z c' f' k) := it_succ _ _ _
  have e1 : hkN x y z (hkN x y z c' f' k).1 (hkN x y z c' f' k).2 1 = hsP (stN x y z) (hkN x y z c' f' k) := by
    unfold hkN
    rw [Int.toNat_natCast, Int.toNat_natCast]; rfl
  refine ⟨hw, ?_, ?_⟩
  · unfold hsC; rw [if_pos hw, e1, e]
  · unfold hsF; rw [if_pos hw, e1, e]
theorem hk_zero {x y z c f : Int} (h : waB x y z c f = true) : c = ((hkN x y z c f 0).1 : Int) ∧ f = ((hkN x y z c f 0).2 : Int) := by
  obtain ⟨hv, c', f', rfl, rfl, hc, hf⟩ := wa_form h
  unfold hkN; rw [Int.toNat_natCast, Int.toNat_natCast]; exact ⟨rfl, rfl⟩
/-- A walk of k steps. -/
def hpI (x y z c f : Int) (k : Nat) : List (Int × Int) := (List.range (k + 1)).map fun j => iwP (hkN x y z c f j)
theorem hp_succ (x y z c f : Int) (k : Nat) : hpI x y z c f (k + 1) = hpI x y z c f k ++ [iwP (hkN x y z c f (k + 1))] := by
  unfold hpI; rw [List.range_succ, List.map_append]; rfl
theorem hp_len (x y z c f : Int) (k : Nat) : (hpI x y z c f k).length = k + 1 := by unfold hpI; rw [List.length_map, List.length_range]
theorem hp_zero {x y z c f : Int} (h : waB x y z c f = true) : hpI x y z c f 0 = [(c, f)] := by
  obtain ⟨e1, e2⟩ := hk_zero h
  unfold hpI iwP
  simp only [List.range_succ, List.range_zero, List.nil_append, List.map_cons, List.map_nil]
  rw [← e1, ← e2]
theorem hp_at (x y z c f : Int) {k j : Nat} (h : j ≤ k) : (hpI x y z c f k)[j]? = some (iwP (hkN x y z c f j)) := by
  unfold hpI; rw [List.getElem?_map, List.getElem?_range (by omega)]; rfl
theorem hw_yes {x y z c f n : Int} (h : waB x y z c f = true) (h0 : 0 ≤ n) (h1 : n ≤ 200) : hwI x y z c f n = hpI x y z c f n.toNat := by
  unfold hwI hwL hpI
  rw [if_pos ⟨h, h0, h1⟩, List.map_map]; rfl
theorem hw_no {x y z c f n : Int} (h : ¬ (waB x y z c f = true ∧ 0 ≤ n ∧ n ≤ 200)) : hwI x y z c f n = [] := by
  unfold hwI hwL; rw [if_neg h]; rfl
theorem hr_any (x y z c f g : Int) : hrB x y z c f g = (hwI x y z c f 200).any fun s => s.1 == g := by
  unfold hrB hwI; rw [List.any_map]; rfl
end Go.Proofs.Ytkknnikhpembiaa.handQ
