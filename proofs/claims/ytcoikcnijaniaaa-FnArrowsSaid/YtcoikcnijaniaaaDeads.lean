/- Dead ends, without the program: how many ways lead on from the cells, sums over the cells, and what filling dead ends leaves. -/
import Derived.Test.YtcoikcnijaniaaaForest
import Derived.Test.YtcoikcnijaniaaaMzB

namespace Go.Proofs.Ytcoikcnijaniaaa.deadP
open gridP gridQ bitP mazeP mazeQ reachP reachM reachN reachD forest
set_option linter.unusedVariables false

/-! ### counts and sums -/
def smN (f : Nat → Nat) : Nat → Nat
  | 0 => 0
  | n + 1 => smN f n + f n
theorem smN_ext {f g : Nat → Nat} : ∀ {n : Nat}, (∀ k, k < n → f k = g k) → smN f n = smN g n
  | 0, _ => rfl
  | n + 1, h => by unfold smN; rw [smN_ext (n := n) fun k hk => h k (by omega), h n (by omega)]
theorem smN_one {f g : Nat → Nat} {a : Nat} : ∀ {n : Nat}, (∀ k, k < n → g k = f k + if k = a then 1 else 0) → smN g n = smN f n + if a < n then 1 else 0
  | 0, _ => by simp [smN]
  | n + 1, h => by
    unfold smN
    rw [smN_one (n := n) fun k hk => h k (by omega), h n (by omega)]
    by_cases h1 : a < n
    · rw [if_pos h1, if_neg (by omega), if_pos (by omega)]; omega
    · by_cases h2 : n = a
      · rw [if_neg h1, if_pos h2, if_pos (by omega)]; omega
      · rw [if_neg h1, if_neg h2, if_neg (by omega)]; omega
theorem smN_two {f g : Nat → Nat} {a b n : Nat} (hab : a ≠ b) (ha : a < n) (hb : b < n) (h : ∀ k, k < n → g k = f k + if k = a ∨ k = b then 1 else 0) : smN g n = smN f n + 2 := by
  have h1 : smN (fun k => f k + if k = a then 1 else 0) n = smN f n + 1 := by
    have := smN_one (f := f) (g := fun k => f k + if k = a then 1 else 0) (a := a) (n := n) fun k hk => rfl
    rw [this, if_pos ha]
  have h2 : smN g n = smN (fun k => f k + if k = a then 1 else 0) n + 1 := by
    have := smN_one (f := fun k => f k + if k = a then 1 else 0) (g := g) (a := b) (n := n) fun k hk => by
      rw [h k hk]
      by_cases e1 : k = a
      · rw [if_pos (.inl e1), if_pos e1, if_neg (by omega)]
      · by_cases e2 : k = b
        · rw [if_pos (.inr e2), if_neg e1, if_pos e2]
        · rw [if_neg (by omega), if_neg e1, if_neg e2]
    rw [this, if_pos hb]
  omega
theorem smN_zero {f : Nat → Nat} : ∀ {n : Nat}, (∀ k, k < n → f k = 0) → smN f n = 0
  | 0, _ => rfl
  | n + 1, h => by unfold smN; rw [smN_zero (n := n) fun k hk => h k (by omega), h n (by omega)]
theorem smN_null {f : Nat → Nat} : ∀ {n : Nat}, smN f n = 0 → ∀ k, k < n → f k = 0
  | 0, _, k, hk => absurd hk (by omega)
  | n + 1, h, k, hk => by
    unfold smN at h
    rcases Nat.lt_or_ge k n with h' | h'
    · exact smN_null (by omega) k h'
    · obtain rfl : k = n := by omega
      omega
/-- A sum of summands that are at least 2. -/
theorem smN_low {f : Nat → Nat} : ∀ {n : Nat}, (∀ k, k < n → 2 ≤ f k) → 2 * n ≤ smN f n ∧ (smN f n ≤ 2 * n → ∀ k, k < n → f k = 2)
  | 0, _ => ⟨Nat.le_refl _, fun _ k hk => absurd hk (by omega)⟩
  | n + 1, h => by
    obtain ⟨h1, h2⟩ := smN_low (n := n) fun k hk => h k (by omega)
    have h3 := h n (by omega)
    unfold smN
    refine ⟨by omega, fun he k hk => ?_⟩
    rcases Nat.lt_or_ge k n with h' | h'
    · exact h2 (by omega) k h'
    · obtain rfl : k = n := by omega
      omega
/-- A number of ways, completed to at least 2. -/
def exN (d : Nat → Nat) (k : Nat) : Nat := d k + (if d k = 1 then 1 else 0) + (if d k = 0 then 2 else 0)
theorem ex_sum (d : Nat → Nat) : ∀ n, smN (exN d) n = smN d n + cnt (fun k => d k == 1) n + 2 * cnt (fun k => d k == 0) n
  | 0 => rfl
  | n + 1 => by
    unfold smN cnt exN
    rw [show smN (fun k => d k + (if d k = 1 then 1 else 0) + (if d k = 0 then 2 else 0)) n = smN (exN d) n from rfl, ex_sum d n]
    simp only [beq_iff_eq]
    split <;> split <;> omega
theorem ex_low (d : Nat → Nat) (k : Nat) : 2 ≤ exN d k := by
  unfold exN
  split <;> split <;> omega
theorem cnt_le {p q : Nat → Bool} : ∀ {n : Nat}, (∀ k, k < n → p k = true → q k = true) → cnt p n ≤ cnt q n ∧ (cnt q n ≤ cnt p n → ∀ k, k < n → q k = true → p k = true)
  | 0, _ => ⟨Nat.le_refl _, fun _ k hk => absurd hk (by omega)⟩
  | n + 1, h => by
    obtain ⟨h1, h2⟩ := cnt_le (n := n) fun k hk => h k (by omega)
    have h3 := h n (by omega)
    unfold cnt
    cases hp : p n with
    | true =>
      rw [h3 hp]
      refine ⟨by simp; omega, fun he k hk hq => ?_⟩
      rcases Nat.lt_or_ge k n with h' | h'
      · exact h2 (by simp at he; omega) k h' hq
      · obtain rfl : k = n := by omega
        exact hp
    | false =>
      refine ⟨by simp; omega, fun he k hk hq => ?_⟩
      have hqn : q n = false := by
        cases hqn : q n with
        | false => rfl
        | true => rw [hqn] at he; simp at he; omega
      rcases Nat.lt_or_ge k n with h' | h'
      · rw [hqn] at he; exact h2 (by simp at he; omega) k h' hq
      · obtain rfl : k = n := by omega
        rw [hqn] at hq; cases hq
theorem cnt_none {p : Nat → Bool} : ∀ {n : Nat}, (∀ k, k < n → p k = false) → cnt p n = 0
  | 0, _ => rfl
  | n + 1, h => by unfold cnt; rw [cnt_none (n := n) fun k hk => h k (by omega), h n (by omega)]; rfl
theorem cnt_pos {p : Nat → Bool} {k : Nat} : ∀ {n : Nat}, k < n → p k = true → 1 ≤ cnt p n
  | 0, hk, _ => absurd hk (by omega)
  | n + 1, hk, h => by
    unfold cnt
    rcases Nat.lt_or_ge k n with h' | h'
    · have := cnt_pos (n := n) h' h; omega
    · obtain rfl : k = n := by omega
      rw [h]; simp
theorem cnt_some {p : Nat → Bool} : ∀ {n : Nat}, 1 ≤ cnt p n → ∃ k, k < n ∧ p k = true
  | 0, h => absurd h (by simp [cnt])
  | n + 1, h => by
    cases hp : p n with
    | true => exact ⟨n, by omega, hp⟩
    | false =>
      unfold cnt at h; rw [hp] at h
      obtain ⟨k, hk, h'⟩ := cnt_some (n := n) (by simpa using h)
      exact ⟨k, by omega, h'⟩
theorem cnt_split {p : Nat → Bool} {n a : Nat} (ha : a < n) (hp : p a = true) : cnt p n = cnt (fun k => p k && k != a) n + 1 :=
  cnt_del hp (by simp) ha fun k hk hne => by simp [hne]
theorem cnt_one {p : Nat → Bool} {n a b : Nat} (h : cnt p n ≤ 1) (ha : a < n) (hb : b < n) (hpa : p a = true) (hpb : p b = true) : a = b := by
  apply Classical.byContradiction
  intro hne
  have h1 := cnt_split ha hpa
  have h2 := cnt_pos (p := fun k => p k && k != a) hb (by simp [hpb]; omega)
  omega
theorem cnt_two {p : Nat → Bool} {n a b c : Nat} (h : cnt p n ≤ 2) (ha : a < n) (hb : b < n) (hc : c < n) (hpa : p a = true) (hpb : p b = true) (hpc : p c = true) (hab : a ≠ b) : c = a ∨ c = b := by
  apply Classical.byContradiction
  intro hne
  have h1 := cnt_split ha hpa
  have := cnt_one (p := fun k => p k && k != a) (n := n) (by omega) hb hc (by simp [hpb]; omega) (by simp [hpc]; omega)
  omega
theorem cnt_single (a : Nat) : ∀ n, cnt (fun k => k == a) n ≤ 1
  | 0 => by simp [cnt]
  | n + 1 => by
    unfold cnt
    by_cases e : n = a
    · subst e
      rw [cnt_none (n := n) fun k hk => by simp; omega]; simp
    · have := cnt_single a n
      simp [e]; omega
theorem cnt_keep {p : Nat → Bool} {n a b : Nat} (h : ∀ k, k < n → p k = true → k = a ∨ k = b) : cnt p n ≤ 2 ∧ (a = b → cnt p n ≤ 1) := by
  by_cases ha : a < n ∧ p a = true
  · have h1 := cnt_split ha.1 ha.2
    have h2 := (cnt_le (p := fun k => p k && k != a) (q := fun k => k == b) (n := n) fun k hk hp => by
      simp at hp ⊢
      rcases h k hk hp.1 with e | e
      · exact absurd e hp.2
      · exact e).1
    have h3 := cnt_single b n
    refine ⟨by omega, fun e => ?_⟩
    have h4 := (cnt_le (p := p) (q := fun k => k == a) (n := n) fun k hk hp => by
      simp
      rcases h k hk hp with e' | e' <;> omega).1
    have h5 := cnt_single a n
    omega
  · have h4 := (cnt_le (p := p) (q := fun k => k == b) (n := n) fun k hk hp => by
      simp
      rcases h k hk hp with e' | e'
      · subst e'; exact absurd ⟨hk, hp⟩ ha
      · exact e').1
    have h5 := cnt_single b n
    exact ⟨by omega, fun _ => by omega⟩
theorem cnt_diff {p q : Nat → Bool} : ∀ {n : Nat}, (∀ k, k < n → q k = true → p k = true) → cnt p n = cnt q n + cnt (fun k => p k && !q k) n
  | 0, _ => rfl
  | n + 1, h => by
    unfold cnt
    rw [cnt_diff (n := n) fun k hk => h k (by omega)]
    have := h n (by omega)
    cases hp : p n <;> cases hq : q n <;> simp_all <;> omega
/-- How many cells a row of different cells has. -/
theorem cnt_img {n : Nat} (f : Nat → Nat) : ∀ {D : Nat} {p : Nat → Bool}, (∀ u, u < n → (p u = true ↔ ∃ i, i < D ∧ u = f i)) → (∀ i j, i < D → j < D → f i = f j → i = j) → (∀ i, i < D → f i < n) → cnt p n = D
  | 0, p, h, _, _ => cnt_none fun k hk => by
    cases hp : p k with
    | false => rfl
    | true => obtain ⟨i, hi, -⟩ := (h k hk).1 hp; omega
  | D + 1, p, h, hinj, hlt => by
    have h1 := cnt_split (p := p) (hlt D (by omega)) ((h _ (hlt D (by omega))).2 ⟨D, by omega, rfl⟩)
    have h2 := cnt_img f (D := D) (p := fun k => p k && k != f D) (fun u hu => by
      simp
      rw [h u hu]
      refine ⟨fun ⟨⟨i, hi, e⟩, hne⟩ => ⟨i, ?_, e⟩, fun ⟨i, hi, e⟩ => ⟨⟨i, by omega, e⟩, fun e' => ?_⟩⟩
      · rcases Nat.lt_or_ge i D with h' | h'
        · exact h'
        · obtain rfl : i = D := by omega
          exact absurd e hne
      · have := hinj i D (by omega) (by omega) (by omega)
        omega) (fun i j hi hj => hinj i j (by omega) (by omega)) (fun i hi => hlt i (by omega))
    omega

/-! ### ways from a cell -/
section
variable {x y : Int}
/-- How many ways lead on from a cell. -/
def dg (x y : Int) (o c : Nat) : Nat := cnt (fun q => decide (0 ≤ stN x y o c q)) 4
theorem wl_cnt (x y z k : Int) : ∀ n, (wlN x y z k n).length = cnt (fun q => decide (0 ≤ stZ x y z k q)) n
  | 0 => rfl
  | n + 1 => by
    unfold wlN cnt
    rw [← wl_cnt x y z k n]
    by_cases h : 0 ≤ stZ x y z k n
    · rw [if_pos h, decide_eq_true h]; simp
    · rw [if_neg h, decide_eq_false h]; simp
theorem wl_dg (o c : Nat) : (wlZ x y o c).length = dg x y o c := wl_cnt x y o c 4
theorem gaps_fin : ∀ w h : Fin 4, ∀ c : Fin 16, ∀ g : Fin 24, (((w : Nat) + 1) * ((h : Nat) + 1) ≤ (c : Nat)) ∨ (gpsZ ((w : Nat) + 1) ((h : Nat) + 1) ≤ (g : Nat)) ∨
    cnt (fun q => gpZ ((w : Nat) + 1) ((h : Nat) + 1) (c : Nat) (q : Nat) == ((g : Nat) : Int)) 4 = if ((c : Nat) : Int) = eaZ ((w : Nat) + 1) ((h : Nat) + 1) (g : Nat) ∨ ((c : Nat) : Int) = ebZ ((w : Nat) + 1) ((h : Nat) + 1) (g : Nat) then 1 else 0 := by decide +kernel
theorem gaps_of {c g : Nat} (hk : OkZ x y) (hc : c < cN x y) (hg : g < gN x y) : cnt (fun q => gpZ x y c (q : Nat) == (g : Int)) 4 = if c = aN x y g ∨ c = bN x y g then 1 else 0 := by
  obtain ⟨-, -, e1, e2⟩ := ends_lt hk hg
  obtain ⟨h1, h2, h3, h4⟩ := hk
  have hb := gps_bd h1 h2 h3 h4
  have hm := (mul_bd x y h1 h2 h3 h4).1
  unfold gN at hg
  unfold cN at hc
  have := gaps_fin ⟨(x - 1).toNat, by omega⟩ ⟨(y - 1).toNat, by omega⟩ ⟨c, by omega⟩ ⟨g, by omega⟩
  simp only [show (((x - 1).toNat : Nat) : Int) + 1 = x by omega, show (((y - 1).toNat : Nat) : Int) + 1 = y by omega] at this
  rcases this with h | h | h
  · have e : ((((x - 1).toNat + 1) * ((y - 1).toNat + 1) : Nat) : Int) = x * y := by
      rw [Int.natCast_mul, show (((x - 1).toNat + 1 : Nat) : Int) = x by omega, show (((y - 1).toNat + 1 : Nat) : Int) = y by omega]
    omega
  · omega
  · rw [h, e1, e2]
    have : ((c : Int) = (aN x y g : Int) ∨ (c : Int) = (bN x y g : Int)) ↔ (c = aN x y g ∨ c = bN x y g) := by omega
    by_cases hh : c = aN x y g ∨ c = bN x y g
    · rw [if_pos hh, if_pos (this.2 hh)]
    · rw [if_neg hh, if_neg (fun e => hh (this.1 e))]
/-- Whether a step leads on, by its gap. -/
theorem st_iff {o c q : Nat} (hv : OkM x y o) : 0 ≤ stN x y o c q ↔ ∃ g : Nat, gpZ x y c q = (g : Int) ∧ bt o g = 1 := by
  by_cases hn : nbZ x y c q < 0
  · refine ⟨fun h => absurd h (st_neg hn), fun ⟨g, h, _⟩ => ?_⟩
    unfold gpZ at h; rw [if_pos hn] at h; omega
  · have h0 := (both x y c q hn).1
    unfold stN
    rw [st_pos hv hn, Int.toNat_natCast]
    refine ⟨fun h => ⟨(gpZ x y c q).toNat, by omega, h⟩, fun ⟨g, h, hb⟩ => by rw [h]; simpa using hb⟩
theorem cnt_or {p q r : Nat → Bool} : ∀ {n : Nat}, (∀ k, k < n → r k = (p k || q k)) → (∀ k, k < n → p k = true → q k = true → False) → cnt r n = cnt p n + cnt q n
  | 0, _, _ => rfl
  | n + 1, h, hd => by
    unfold cnt
    rw [cnt_or (n := n) (fun k hk => h k (by omega)) (fun k hk => hd k (by omega)), h n (by omega)]
    have := hd n (by omega)
    cases hp : p n <;> cases hq : q n <;> simp_all <;> omega
theorem dg_add {o g c : Nat} (hk : OkZ x y) (ho : o < 2 ^ gN x y) (hg : g < gN x y) (hb : bt o g = 0) (hc : c < cN x y) : dg x y (o + 2 ^ g) c = dg x y o c + if c = aN x y g ∨ c = bN x y g then 1 else 0 := by
  have hv := okm hk ho
  have hv' := okm hk (add_lt ho hg hb)
  rw [← gaps_of hk hc hg]
  refine cnt_or (fun q hq => ?_) (fun q hq h1 h2 => ?_)
  · rw [Bool.eq_iff_iff, Bool.or_eq_true, decide_eq_true_iff, decide_eq_true_iff, st_iff hv, st_iff hv', beq_iff_eq]
    refine ⟨fun ⟨j, h, hj⟩ => ?_, ?_⟩
    · rw [bt_add hb] at hj
      split at hj
      · rename_i e; subst e; exact .inr h
      · exact .inl ⟨j, h, hj⟩
    · rintro (⟨j, h, hj⟩ | h)
      · refine ⟨j, h, ?_⟩
        rw [bt_add hb]; split
        · rfl
        · exact hj
      · exact ⟨g, h, by rw [bt_add hb, if_pos rfl]⟩
  · rw [decide_eq_true_iff, st_iff hv] at h1
    obtain ⟨j, h, hj⟩ := h1
    have h2' : gpZ x y c q = (g : Int) := by simpa using h2
    have : j = g := by omega
    subst this; omega
theorem dg_none {c : Nat} (hk : OkZ x y) : dg x y 0 c = 0 := cnt_none fun q hq => by
  rw [decide_eq_false_iff_not, st_iff (okm hk (Nat.pow_pos (by decide)))]
  rintro ⟨g, -, hb⟩
  simp [bt] at hb
/-- The ways of all cells are twice the passages. -/
theorem dg_sum {o : Nat} (hk : OkZ x y) (ho : o < 2 ^ gN x y) : smN (dg x y o) (cN x y) = 2 * pcN o (gN x y) := by
  have key : ∀ k, k ≤ gN x y → smN (dg x y (o % 2 ^ k)) (cN x y) = 2 * pcN (o % 2 ^ k) (gN x y) := by
    intro k
    induction k with
    | zero =>
      intro _
      rw [Nat.pow_zero, Nat.mod_one, smN_zero fun c hc => dg_none hk]
      have : ∀ k, pcN 0 k = 0 := fun k => by
        induction k with
        | zero => rfl
        | succ k ih => rw [pcN, ih]; simp
      rw [this]
    | succ k ih =>
      intro hkG
      have ih := ih (by omega)
      have hlt : o % 2 ^ k < 2 ^ gN x y := Nat.lt_of_lt_of_le (Nat.mod_lt _ (Nat.pow_pos (by decide))) (Nat.pow_le_pow_right (by decide) (by omega))
      have h0 : bt (o % 2 ^ k) k = 0 := by rw [bt_mod, if_neg (by omega)]
      rw [mod_next]
      have hb := bt_le o k
      by_cases h : bt o k = 1
      · rw [h, Nat.mul_one, pc_add h0 (by omega)]
        obtain ⟨e1, e2, -, -⟩ := ends_lt hk (show k < gN x y by omega)
        rw [smN_two (f := dg x y (o % 2 ^ k)) (a := aN x y k) (b := bN x y k) (by omega) (by omega) e2 fun c hc => dg_add hk hlt (by omega) h0 hc, ih]
        omega
      · rw [show bt o k = 0 by omega, Nat.mul_zero, Nat.add_zero]; exact ih
  have := key (gN x y) (Nat.le_refl _)
  rwa [Nat.mod_eq_of_lt ho] at this
/-- From a cell without ways nothing is reached. -/
theorem iso_wk {o c n v : Nat} (hd : dg x y o c = 0) (h : Wk (stN x y o) c n v) : v = c := by
  induction h with
  | zero => rfl
  | @step n u q v _ hq hs ih =>
    subst ih
    have := cnt_pos (p := fun q => decide (0 ≤ stN x y o u q)) (n := 4) hq (decide_eq_true (by rw [hs]; omega))
    unfold dg at hd; omega
theorem iso_cn {o c v : Nat} (hd : dg x y o c = 0) (h : Cn x y o c v) : v = c := let ⟨_, h⟩ := h; iso_wk hd h
theorem iso_least {o c : Nat} (hc : c < cN x y) (hd : dg x y o c = 0) : isLeast (stN x y o) (cN x y) c = true := (least_iff hc).2 fun j hj hcn => by have := iso_cn hd hcn; omega
/-- Ends, lonely cells and parts: ends are at least twice the parts that are no lonely cells; where they are just twice, every cell has at most two ways. -/
theorem ends_low {o : Nat} (hk : OkZ x y) (ho : o < 2 ^ gN x y) (hl : lp x y o = 0) :
    2 * pt x y o ≤ cnt (fun c => dg x y o c == 1) (cN x y) + 2 * cnt (fun c => dg x y o c == 0) (cN x y) ∧
    (cnt (fun c => dg x y o c == 1) (cN x y) + 2 * cnt (fun c => dg x y o c == 0) (cN x y) ≤ 2 * pt x y o → ∀ c, c < cN x y → dg x y o c ≤ 2) := by
  have h1 := dg_sum hk ho
  have h2 := ex_sum (dg x y o) (cN x y)
  obtain ⟨h3, h4⟩ := smN_low (f := exN (dg x y o)) (n := cN x y) fun k _ => ex_low _ k
  unfold lp at hl
  refine ⟨by omega, fun h c hc => ?_⟩
  have := h4 (by omega) c hc
  unfold exN at this
  split at this <;> split at this <;> omega
theorem iso_le {o : Nat} : cnt (fun c => dg x y o c == 0) (cN x y) ≤ pt x y o ∧ (pt x y o ≤ cnt (fun c => dg x y o c == 0) (cN x y) → ∀ c, c < cN x y → dg x y o c = 0) := by
  have he : pt x y o = cnt (isLeast (stN x y o) (cN x y)) (cN x y) := by unfold pt; rw [cp_cnt]
  obtain ⟨h1, h2⟩ := cnt_le (p := fun c => dg x y o c == 0) (q := isLeast (stN x y o) (cN x y)) (n := cN x y) fun c hc h => iso_least hc (by simpa using h)
  rw [he]
  refine ⟨h1, fun h c hc => ?_⟩
  obtain ⟨l, hlc, hcn, hle, -⟩ := least_of (x := x) (y := y) (o := o) hc
  have := h2 h l (by omega) hle
  have hd : dg x y o l = 0 := by simpa using this
  have := iso_cn hd (cn_symm hcn)
  subst this; exact hd
/-- Without ends there is no passage. -/
theorem no_ends {o : Nat} (hk : OkZ x y) (ho : o < 2 ^ gN x y) (hl : lp x y o = 0) (h : cnt (fun c => dg x y o c == 1) (cN x y) ≤ 1) : pcN o (gN x y) = 0 ∧ ∀ c, c < cN x y → dg x y o c = 0 := by
  obtain ⟨h1, -⟩ := ends_low hk ho hl
  obtain ⟨h2, h3⟩ := iso_le (x := x) (y := y) (o := o)
  have h4 := h3 (by omega)
  have h5 := dg_sum hk ho
  rw [smN_zero h4] at h5
  exact ⟨by omega, h4⟩
end
end Go.Proofs.Ytcoikcnijaniaaa.deadP

/- Filling dead ends, without the program: distances stay, and one way is left. -/
namespace Go.Proofs.Ytcoikcnijaniaaa.deadQ
open gridP gridQ bitP mazeP mazeQ reachP reachM reachN reachD forest deadP
set_option linter.unusedVariables false

section
variable {x y : Int}
/-- A step's gap and its ends. -/
theorem step_gap2 {o u q v : Nat} (hv : OkM x y o) (hs : stN x y o u q = (v : Int)) : ∃ g : Nat, gpZ x y u q = (g : Int) ∧ g < gN x y ∧ bt o g = 1 ∧ ((u = aN x y g ∧ v = bN x y g) ∨ (u = bN x y g ∧ v = aN x y g)) := by
  have hn : ¬ nbZ x y u q < 0 := by
    intro h
    have := st_neg (w := x) (h := y) (o := o) (k := u) (d := q) h
    unfold stN at hs; omega
  have hp := st_pos (k := (u : Int)) (d := (q : Int)) hv hn
  have h0 : 0 ≤ stZ x y o u q := by unfold stN at hs; omega
  have hb := hp.1 h0
  have hnb : nbZ x y u q = v := by
    unfold stN stZ at hs
    split at hs
    · exact hs
    · omega
  obtain ⟨b1, b2, b3, b4, b5, b6⟩ := both x y u q hn
  have hlt := gp_lt x y u q hn
  have hg : ((gpZ x y u q).toNat : Int) = gpZ x y u q := by omega
  refine ⟨(gpZ x y u q).toNat, hg.symm, by unfold gN; omega, by simpa using hb, ?_⟩
  have he := (ends (g := (gpZ x y u q).toNat) hv.1 (by unfold gN; omega)).1
  rw [hg] at he
  unfold aN bN
  rw [hg]
  have hne := nb_ne (x := x) (y := y) (u : Int) (q : Int)
  rw [hnb] at b6 hne
  rcases b5 with e | e <;> rcases b6 with e' | e' <;> omega
theorem st_val {o o' u q v : Nat} (hs : stN x y o u q = (v : Int)) (h0 : 0 ≤ stN x y o' u q) : stN x y o' u q = (v : Int) := by
  unfold stN stZ at hs h0 ⊢
  split at h0
  · rename_i h'; rw [if_pos h']
    split at hs
    · exact hs
    · omega
  · omega
theorem st_ne {o u q v : Nat} (hs : stN x y o u q = (v : Int)) : v ≠ u := by
  rintro rfl
  unfold stN stZ at hs
  split at hs
  · rcases nb_ne (x := x) (y := y) (v : Int) (q : Int) with h | h <;> omega
  · omega
/-- A cell with one way. -/
theorem one_way {o c q q' : Nat} (hd : dg x y o c ≤ 1) (hq : q < 4) (hq' : q' < 4) (h : 0 ≤ stN x y o c q) (h' : 0 ≤ stN x y o c q') : q = q' :=
  cnt_one hd hq hq' (decide_eq_true h) (decide_eq_true h')
theorem two_ways {o c q q' r : Nat} (hd : dg x y o c ≤ 2) (hq : q < 4) (hq' : q' < 4) (hr : r < 4) (h : 0 ≤ stN x y o c q) (h' : 0 ≤ stN x y o c q') (hr' : 0 ≤ stN x y o c r) (hne : q ≠ q') : r = q ∨ r = q' :=
  cnt_two hd hq hq' hr (decide_eq_true h) (decide_eq_true h') (decide_eq_true hr') hne
theorem has_way {o c q v : Nat} (hq : q < 4) (hs : stN x y o c q = (v : Int)) : dg x y o c ≠ 0 := by
  have := cnt_pos (p := fun q => decide (0 ≤ stN x y o c q)) (n := 4) hq (decide_eq_true (by rw [hs]; omega))
  unfold dg; omega

/-! ### one dead end is filled -/
/-- A walk between other cells does without a dead end. -/
theorem fill_wk {o g c a q0 v0 : Nat} (hk : OkZ x y) (ho : o < 2 ^ gN x y) (hb : bt o g = 1) (hd : dg x y o c = 1) (hq0 : q0 < 4) (hs0 : stN x y o c q0 = (v0 : Int)) (hg0 : gpZ x y c q0 = (g : Int)) (hgN : g < gN x y) (hac : a ≠ c) {n u : Nat} (h : Wk (stN x y o) a n u) :
    (u ≠ c → ∃ m, m ≤ n ∧ Wk (stN x y (o - 2 ^ g : Nat)) a m u) ∧ (u = c → ∃ m, m + 1 ≤ n ∧ Wk (stN x y (o - 2 ^ g : Nat)) a m v0) := by
  have hv := okm hk ho
  obtain ⟨hle, hb0, hoo⟩ := bt_take hb
  have ho' : o - 2 ^ g < 2 ^ gN x y := Nat.lt_of_le_of_lt (Nat.sub_le _ _) ho
  have hv' := okm hk ho'
  have hbits : ∀ j, j ≠ g → bt (o - 2 ^ g) j = bt o j := fun j hj => by
    have := bt_add hb0 j
    rw [hoo, if_neg hj] at this; exact this.symm
  obtain ⟨g1, e1, -, -, hends⟩ := step_gap2 hv hs0
  obtain rfl : g = g1 := by omega
  induction h with
  | zero => exact ⟨fun _ => ⟨0, Nat.le_refl _, .zero⟩, fun e => absurd e hac⟩
  | @step n u q w hw hq hs ih =>
    obtain ⟨ih1, ih2⟩ := ih
    by_cases huc : u = c
    · subst huc
      obtain rfl : q = q0 := one_way (Nat.le_of_eq hd) hq hq0 (by rw [hs]; omega) (by rw [hs0]; omega)
      obtain rfl : w = v0 := by omega
      obtain ⟨m, hm, hw'⟩ := ih2 rfl
      exact ⟨fun _ => ⟨m, by omega, hw'⟩, fun e => absurd e (st_ne hs)⟩
    · obtain ⟨m, hm, hw'⟩ := ih1 huc
      obtain ⟨j, ej, hj, hbj, hje⟩ := step_gap2 hv hs
      by_cases hwc : w = c
      · subst hwc
        obtain ⟨q', hq', hs'⟩ := stN_back hq hs
        obtain rfl : q' = q0 := one_way (Nat.le_of_eq hd) hq' hq0 (by rw [hs']; omega) (by rw [hs0]; omega)
        obtain rfl : u = v0 := by omega
        exact ⟨fun e => absurd rfl e, fun _ => ⟨m, by omega, hw'⟩⟩
      · have hjg : j ≠ g := by
          rintro rfl
          rcases hends with ⟨h1, h2⟩ | ⟨h1, h2⟩ <;> rcases hje with ⟨h3, h4⟩ | ⟨h3, h4⟩
          · exact huc (h3.trans h1.symm)
          · exact hwc (h4.trans h1.symm)
          · exact hwc (h4.trans h1.symm)
          · exact huc (h3.trans h1.symm)
        have hs' : stN x y (o - 2 ^ g : Nat) u q = (w : Int) := st_val hs ((st_iff hv').2 ⟨j, ej, by rw [hbits j hjg]; exact hbj⟩)
        exact ⟨fun _ => ⟨m + 1, by omega, .step hw' hq hs'⟩, fun e => absurd e hwc⟩
theorem wk_less {o g a : Nat} (hk : OkZ x y) (ho : o < 2 ^ gN x y) (hb : bt o g = 1) {n u : Nat} (h : Wk (stN x y (o - 2 ^ g : Nat)) a n u) : Wk (stN x y o) a n u := by
  obtain ⟨hle, hb0, hoo⟩ := bt_take hb
  have ho' : o - 2 ^ g < 2 ^ gN x y := Nat.lt_of_le_of_lt (Nat.sub_le _ _) ho
  induction h with
  | zero => exact .zero
  | @step n u q w hw hq hs ih =>
    obtain ⟨j, ej, hj⟩ := (st_iff (okm hk ho')).1 (show 0 ≤ stN x y (o - 2 ^ g : Nat) u q by rw [hs]; omega)
    refine .step ih hq (st_val hs ((st_iff (okm hk ho)).2 ⟨j, ej, ?_⟩))
    have := bt_add hb0 j
    rw [hoo] at this
    rw [this]; split
    · rfl
    · exact hj
theorem dZ_eq {st st' : Nat → Nat → Int} {N a b : Nat} (ha : a < N) (hst : ∀ u q v : Nat, st u q = (v : Int) → v < N) (hst' : ∀ u q v : Nat, st' u q = (v : Int) → v < N) (h1 : ∀ n, Wk st a n b → ∃ m, m ≤ n ∧ Wk st' a m b) (h2 : ∀ n, Wk st' a n b → ∃ m, m ≤ n ∧ Wk st a m b) : dZ st N a b = dZ st' N a b := by
  rcases dZ_spec ha hst b with ⟨e1, f1⟩ | ⟨n, e1, _, f1, g1⟩
  · rcases dZ_spec ha hst' b with ⟨e2, f2⟩ | ⟨m, e2, _, f2, g2⟩
    · rw [e1, e2]
    · obtain ⟨k, -, hk⟩ := h2 m f2; exact absurd hk (f1 k)
  · rcases dZ_spec ha hst' b with ⟨e2, f2⟩ | ⟨m, e2, _, f2, g2⟩
    · obtain ⟨k, -, hk⟩ := h1 n f1; exact absurd hk (f2 k)
    · obtain ⟨k, hk1, hk2⟩ := h1 n f1
      obtain ⟨j, hj1, hj2⟩ := h2 m f2
      have := g1 _ hj2
      have := g2 _ hk2
      rw [e1, e2]; omega
/-- What filling a dead end does. -/
theorem fill_one {o c : Nat} (hk : OkZ x y) (ho : o < 2 ^ gN x y) (hc : c < cN x y) (hd : dg x y o c = 1) :
    ∃ q v g : Nat, wlZ x y o c = [(q : Int)] ∧ q < 4 ∧ stN x y o c q = (v : Int) ∧ gpZ x y c q = (g : Int) ∧ g < gN x y ∧ bt o g = 1 ∧ o - 2 ^ g < 2 ^ gN x y ∧ pcN o (gN x y) = pcN (o - 2 ^ g) (gN x y) + 1 ∧
    (lp x y o = 0 → lp x y (o - 2 ^ g : Nat) = 0) ∧ ∀ a b, a < cN x y → b < cN x y → a ≠ c → b ≠ c → dZ (stN x y (o - 2 ^ g : Nat)) (cN x y) a b = dZ (stN x y o) (cN x y) a b := by
  have hv := okm hk ho
  have hlen : (wlZ x y o c).length = 1 := by rw [wl_dg]; exact hd
  obtain ⟨q, hq, hsq⟩ := cnt_some (p := fun q => decide (0 ≤ stN x y o c q)) (n := 4) (by unfold dg at hd; omega)
  have hsq := of_decide_eq_true hsq
  obtain ⟨v, hsv⟩ := Int.eq_ofNat_of_zero_le hsq
  obtain ⟨g, eg, hg, hb, -⟩ := step_gap2 hv hsv
  obtain ⟨hle, hb0, hoo⟩ := bt_take hb
  have ho' : o - 2 ^ g < 2 ^ gN x y := Nat.lt_of_le_of_lt (Nat.sub_le _ _) ho
  have hwl : wlZ x y o c = [(q : Int)] := by
    have hmem : ∀ n, q < n → (q : Int) ∈ wlN x y o c n := fun n => by
      induction n with
      | zero => intro h; omega
      | succ n ih =>
        intro h
        unfold wlN
        by_cases e : q = n
        · subst e; rw [if_pos (show 0 ≤ stZ x y o c q from hsq)]; simp
        · split
          · exact List.mem_append.2 (.inl (ih (by omega)))
          · exact ih (by omega)
    have hm := hmem 4 hq
    obtain ⟨d, hd'⟩ := List.length_eq_one_iff.1 hlen
    unfold wlZ at hd' ⊢
    rw [hd'] at hm ⊢
    have : (q : Int) = d := by simpa using hm
    rw [this]
  have hpc := pc_add hb0 hg
  rw [hoo] at hpc
  refine ⟨q, v, g, hwl, hq, hsv, eg, hg, hb, ho', hpc, fun hl => ?_, fun a b ha hb' hac hbc => ?_⟩
  · obtain ⟨l1, l2⟩ := lp_add hk ho' hg hb0
    have hp := lp_pos hk ho'
    rw [hoo] at l1 l2
    by_cases hcn : Cn x y (o - 2 ^ g : Nat) (aN x y g) (bN x y g)
    · have := l1 hcn; omega
    · rw [← l2 hcn]; exact hl
  · refine dZ_eq ha (@stN_lt x y _) (@stN_lt x y _) (fun n h => ⟨n, Nat.le_refl _, wk_less hk ho hb h⟩) (fun n h => ?_)
    exact (fill_wk hk ho hb hd hq hsv eg hg hac h).1 hbc

/-! ### what is left is one way -/
theorem wk_path {st : Nat → Nat → Int} {a : Nat} {n v : Nat} (h : Wk st a n v) : ∃ p : Nat → Nat, p 0 = a ∧ p n = v ∧ ∀ i, i < n → ∃ q, q < 4 ∧ st (p i) q = (p (i + 1) : Int) := by
  induction h with
  | zero => exact ⟨fun _ => a, rfl, rfl, fun i hi => absurd hi (by omega)⟩
  | @step n u q w _ hq hs ih =>
    obtain ⟨p, h0, hn, hp⟩ := ih
    refine ⟨fun i => if i ≤ n then p i else w, by simp [h0], if_neg (by omega), fun i hi => ?_⟩
    by_cases e : i = n
    · subst e
      refine ⟨q, hq, ?_⟩
      show st (if i ≤ i then p i else w) q = ((if i + 1 ≤ i then p (i + 1) else w : Nat) : Int)
      rw [if_pos (Nat.le_refl _), if_neg (by omega), hn, hs]
    · obtain ⟨q', hq', hs'⟩ := hp i (by omega)
      refine ⟨q', hq', ?_⟩
      show st (if i ≤ n then p i else w) q' = ((if i + 1 ≤ n then p (i + 1) else w : Nat) : Int)
      rw [if_pos (by omega), if_pos (by omega)]; exact hs'
theorem path_wk {st : Nat → Nat → Int} {p : Nat → Nat} {n : Nat} (hp : ∀ i, i < n → ∃ q, q < 4 ∧ st (p i) q = (p (i + 1) : Int)) (i : Nat) : ∀ j, i ≤ j → j ≤ n → Wk st (p i) (j - i) (p j)
  | 0, h1, h2 => by obtain rfl : i = 0 := by omega
                    exact .zero
  | j + 1, h1, h2 => by
    rcases Nat.lt_or_ge i (j + 1) with h | h
    · obtain ⟨q, hq, hs⟩ := hp j (by omega)
      have := Wk.step (path_wk hp i j (by omega) (by omega)) hq hs
      rwa [show j - i + 1 = j + 1 - i by omega] at this
    · obtain rfl : i = j + 1 := by omega
      rw [Nat.sub_self]; exact .zero
/-- In a maze without loops whose ends are two cells that are connected, the passages are the way between them. -/
theorem one_left {o a b : Nat} (hk : OkZ x y) (ho : o < 2 ^ gN x y) (hl : lp x y o = 0) (ha : a < cN x y) (hb : b < cN x y) (hcn : Cn x y o a b) (hends : ∀ c, c < cN x y → dg x y o c = 1 → c = a ∨ c = b) :
    (pcN o (gN x y) : Int) = dZ (stN x y o) (cN x y) a b := by
  have hkeep := cnt_keep (p := fun c => dg x y o c == 1) (n := cN x y) (a := a) (b := b) fun c hc h => hends c hc (by simpa using h)
  by_cases hab : a = b
  · subst hab
    have := (no_ends hk ho hl (hkeep.2 rfl)).1
    rw [this, (dZ_self ha (@stN_lt x y o) a).2 rfl]; rfl
  · have hna : dg x y o a ≠ 0 := fun h => hab (iso_cn h hcn).symm
    have hnb : dg x y o b ≠ 0 := fun h => hab (iso_cn h (cn_symm hcn))
    obtain ⟨e1, e2⟩ := ends_low hk ho hl
    obtain ⟨i1, i2⟩ := iso_le (x := x) (y := y) (o := o)
    have hpt : pt x y o = cnt (fun c => dg x y o c == 0) (cN x y) + 1 := by
      by_cases h : pt x y o ≤ cnt (fun c => dg x y o c == 0) (cN x y)
      · exact absurd (i2 h a ha) hna
      · omega
    have h2 := e2 (by omega)
    have hL2 : cnt (fun c => dg x y o c == 1) (cN x y) = 2 := by omega
    -- both are ends
    have hda : dg x y o a = 1 := by
      apply Classical.byContradiction
      intro h
      have := (cnt_keep (p := fun c => dg x y o c == 1) (n := cN x y) (a := b) (b := b) fun c hc h' => by
        rcases hends c hc (by simpa using h') with e | e
        · subst e; exact absurd (by simpa using h') h
        · exact .inl e).2 rfl
      omega
    have hdb : dg x y o b = 1 := by
      apply Classical.byContradiction
      intro h
      have := (cnt_keep (p := fun c => dg x y o c == 1) (n := cN x y) (a := a) (b := a) fun c hc h' => by
        rcases hends c hc (by simpa using h') with e | e
        · exact .inl e
        · subst e; exact absurd (by simpa using h') h).2 rfl
      omega
    -- all cells with ways are connected with a
    have hall : ∀ u, u < cN x y → dg x y o u ≠ 0 → Cn x y o a u := fun u hu hd => by
      have he : pt x y o = cnt (isLeast (stN x y o) (cN x y)) (cN x y) := by unfold pt; rw [cp_cnt]
      have hdf := cnt_diff (p := isLeast (stN x y o) (cN x y)) (q := fun c => dg x y o c == 0) (n := cN x y) fun c hc h => iso_least hc (by simpa using h)
      have hone : cnt (fun k => isLeast (stN x y o) (cN x y) k && !(dg x y o k == 0)) (cN x y) ≤ 1 := by omega
      obtain ⟨l, hlu, hcl, hle, -⟩ := least_of (x := x) (y := y) (o := o) hu
      obtain ⟨l', hlu', hcl', hle', -⟩ := least_of (x := x) (y := y) (o := o) ha
      have hdl : dg x y o l ≠ 0 := fun h => by have := iso_cn h (cn_symm hcl); subst this; exact hd h
      have hdl' : dg x y o l' ≠ 0 := fun h => by have := iso_cn h (cn_symm hcl'); subst this; exact hna h
      have := cnt_one hone (show l < cN x y by omega) (show l' < cN x y by omega) (by simp [hle, hdl]) (by simp [hle', hdl'])
      subst this
      exact cn_trans hcl' (cn_symm hcl)
    -- the way
    rcases dZ_spec ha (@stN_lt x y o) b with ⟨_, f⟩ | ⟨D, eD, hDN, hwD, hmin⟩
    · obtain ⟨n, hn⟩ := hcn; exact absurd hn (f n)
    obtain ⟨p, hp0, hpD, hps⟩ := wk_path hwD
    have hD : 1 ≤ D := by
      rcases Nat.eq_zero_or_pos D with h | h
      · subst h; exact absurd (hp0.symm.trans hpD) hab
      · exact h
    have hinj' : ∀ i j, i < j → j ≤ D → p i ≠ p j := fun i j hij hj e => by
      have w1 := path_wk hps 0 i (Nat.zero_le _) (by omega)
      have w2 := path_wk hps j D hj (Nat.le_refl _)
      rw [hp0, e] at w1; rw [hpD] at w2
      have := hmin _ (wk_trans w1 w2)
      omega
    have hlt : ∀ i, i ≤ D → p i < cN x y := fun i hi => by
      rcases Nat.eq_zero_or_pos i with h | h
      · subst h; rw [hp0]; exact ha
      · obtain ⟨q, hq, hs⟩ := hps (i - 1) (by omega)
        rw [show i - 1 + 1 = i by omega] at hs
        exact stN_lt _ _ _ hs
    have hclosed : ∀ i, i ≤ D → ∀ q w : Nat, q < 4 → stN x y o (p i) q = (w : Int) → ∃ j, j ≤ D ∧ w = p j := fun i hi q w hq hs => by
      by_cases hiD : i < D
      · obtain ⟨q1, hq1, hs1⟩ := hps i hiD
        rcases Nat.eq_zero_or_pos i with h | h
        · subst h
          rw [hp0] at hs hs1
          obtain rfl : q = q1 := one_way (Nat.le_of_eq hda) hq hq1 (by rw [hs]; omega) (by rw [hs1]; omega)
          have e1 : (w : Int) = (p 1 : Int) := hs.symm.trans hs1
          exact ⟨1, hD, by omega⟩
        · obtain ⟨q2, hq2, hs2⟩ := hps (i - 1) (by omega)
          rw [show i - 1 + 1 = i by omega] at hs2
          obtain ⟨q3, hq3, hs3⟩ := stN_back hq2 hs2
          have hne : q1 ≠ q3 := fun e => by
            subst e
            exact hinj' (i - 1) (i + 1) (by omega) (by omega) (by omega)
          rcases two_ways (h2 _ (hlt i hi)) hq1 hq3 hq (by rw [hs1]; omega) (by rw [hs3]; omega) (by rw [hs]; omega) hne with e | e
          · subst e; exact ⟨i + 1, by omega, by omega⟩
          · subst e; exact ⟨i - 1, by omega, by omega⟩
      · obtain rfl : i = D := by omega
        obtain ⟨q2, hq2, hs2⟩ := hps (i - 1) (by omega)
        rw [show i - 1 + 1 = i by omega] at hs2
        obtain ⟨q3, hq3, hs3⟩ := stN_back hq2 hs2
        rw [hpD] at hs hs3
        obtain rfl : q = q3 := one_way (Nat.le_of_eq hdb) hq hq3 (by rw [hs]; omega) (by rw [hs3]; omega)
        exact ⟨i - 1, by omega, by omega⟩
    have hreach : ∀ n u, Wk (stN x y o) a n u → ∃ j, j ≤ D ∧ u = p j := fun n u hw => by
      induction hw with
      | zero => exact ⟨0, by omega, hp0.symm⟩
      | @step n u q w _ hq hs ih =>
        obtain ⟨j, hj, rfl⟩ := ih
        exact hclosed j hj q w hq hs
    have hcount : cnt (fun c => !(dg x y o c == 0)) (cN x y) = D + 1 := by
      refine cnt_img p (fun u hu => ?_) (fun i j hi hj e => ?_) fun i hi => hlt i (by omega)
      · refine ⟨fun h => ?_, fun ⟨i, hi, e⟩ => ?_⟩
        · obtain ⟨n, hn⟩ := hall u hu (by simpa using h)
          obtain ⟨j, hj, e⟩ := hreach n u hn
          exact ⟨j, by omega, e⟩
        · subst e
          have : dg x y o (p i) ≠ 0 := by
            by_cases hiD : i < D
            · obtain ⟨q1, hq1, hs1⟩ := hps i hiD
              exact has_way hq1 hs1
            · obtain rfl : i = D := by omega
              rw [hpD]; exact hnb
          simpa using this
      · rcases Nat.lt_trichotomy i j with h | h | h
        · exact absurd e (hinj' i j h (by omega))
        · exact h
        · exact absurd e.symm (hinj' j i h (by omega))
    have hdf := cnt_diff (p := fun _ => true) (q := fun c => dg x y o c == 0) (n := cN x y) fun _ _ _ => rfl
    rw [cnt_all (p := fun _ => true) fun _ _ => rfl] at hdf
    simp only [Bool.true_and] at hdf
    rw [eD]
    unfold lp at hl
    omega
end
end Go.Proofs.Ytcoikcnijaniaaa.deadQ

/- What the functions on dead ends answer, and what their law asks. -/
namespace Go.Proofs.Ytcoikcnijaniaaa.deadR
open gridP gridQ bitP mazeP mazeQ reachP reachM reachN reachD forest deadP deadQ
set_option linter.unusedVariables false

/-- The numbers below n that have a property, in order. -/
def clN (p : Nat → Bool) : Nat → List Int
  | 0 => []
  | n + 1 => if p n = true then clN p n ++ [(n : Int)] else clN p n
theorem clN_len (p : Nat → Bool) : ∀ n, (clN p n).length = cnt p n
  | 0 => rfl
  | n + 1 => by
    unfold clN cnt
    rw [← clN_len p n]
    split <;> simp
theorem cnt_max (p : Nat → Bool) : ∀ n, cnt p n ≤ n
  | 0 => Nat.le_refl _
  | n + 1 => by
    have := cnt_max p n
    unfold cnt; split <;> omega
theorem clN_mem (p : Nat → Bool) (u : Int) : ∀ n, u ∈ clN p n ↔ ∃ k : Nat, u = k ∧ k < n ∧ p k = true
  | 0 => by simp [clN]
  | n + 1 => by
    unfold clN
    split
    · rename_i h
      rw [List.mem_append, clN_mem p u n]
      refine ⟨?_, fun ⟨k, e, hk, hp⟩ => ?_⟩
      · rintro (⟨k, e, hk, hp⟩ | h')
        · exact ⟨k, e, by omega, hp⟩
        · exact ⟨n, by simpa using h', by omega, h⟩
      · rcases Nat.lt_or_ge k n with h' | h'
        · exact .inl ⟨k, e, h', hp⟩
        · obtain rfl : k = n := by omega
          right; simp [e]
    · rename_i h
      rw [clN_mem p u n]
      refine ⟨fun ⟨k, e, hk, hp⟩ => ⟨k, e, by omega, hp⟩, fun ⟨k, e, hk, hp⟩ => ⟨k, e, ?_, hp⟩⟩
      rcases Nat.lt_or_ge k n with h' | h'
      · exact h'
      · obtain rfl : k = n := by omega
        exact absurd hp h

def deB (x y z : Int) (k : Nat) : Bool := decide ((wlZ x y z k).length = 1)
def jnB (x y z : Int) (k : Nat) : Bool := decide (3 ≤ (wlZ x y z k).length)
/-- Whether a cell has just two ways, which are opposite. -/
def csB (x y z : Int) (k : Nat) : Bool := decide ((wlZ x y z k).length = 2 ∧ (wlZ x y z k).getD 1 0 - (wlZ x y z k).getD 0 0 = 2)
def deL (x y z : Int) : List Int := if OkM x y z then clN (deB x y z) (cN x y) else []
def jnL (x y z : Int) : List Int := if OkM x y z then clN (jnB x y z) (cN x y) else []
def csZ (x y z : Int) : Int := if OkM x y z then ((cnt (csB x y z) (cN x y) : Nat) : Int) else 0
def bsN (x y z : Int) : Nat → Int
  | 0 => 0
  | n + 1 => bsN x y z n + if 0 < (wlZ x y z n).length then ((wlZ x y z n).length : Int) - 2 else 0
def bsZ (x y z : Int) : Int := if OkM x y z then bsN x y z (cN x y) else 0
/-- The first element of a list that is not in another one, -1 where there is none. -/
def fsZ (K l : List Int) : Int := (l.find? fun k => !decide (k ∈ K)).getD (-1)
def atZ (x y z : Int) (K : List Int) : Int := fsZ K (deL x y z)
def fd1 (x y z a : Int) : Int := sgZ x y z (gpZ x y a ((wlZ x y z a).getD 0 0)) false
def fdN (x y : Int) (K : List Int) : Nat → Int → Int
  | 0, z => z
  | f + 1, z => if atZ x y z K < 0 then z else fdN x y K f (fd1 x y z (atZ x y z K))
def keB (x y z : Int) (K : List Int) : Bool := K.all fun a => hasB x y z a
def fdZ (x y z : Int) (K : List Int) : Int := if keB x y z K = true then fdN x y K 24 z else z

theorem fs_cons (K : List Int) (u : Int) (l : List Int) : fsZ K (u :: l) = if u ∈ K then fsZ K l else u := by
  unfold fsZ
  by_cases h : u ∈ K
  · rw [if_pos h, List.find?_cons_of_neg (by simp [h])]
  · rw [if_neg h, List.find?_cons_of_pos (by simp [h])]; rfl
theorem fs_spec (K : List Int) : ∀ (l : List Int), (∀ u ∈ l, 0 ≤ u) → (fsZ K l < 0 ∧ ∀ u ∈ l, u ∈ K) ∨ (0 ≤ fsZ K l ∧ fsZ K l ∈ l ∧ fsZ K l ∉ K)
  | [], _ => .inl ⟨by unfold fsZ; simp, fun u hu => by cases hu⟩
  | u :: l, h => by
    rw [fs_cons]
    by_cases hu : u ∈ K
    · rw [if_pos hu]
      rcases fs_spec K l (fun v hv => h v (List.mem_cons_of_mem _ hv)) with ⟨h1, h2⟩ | ⟨h1, h2, h3⟩
      · refine .inl ⟨h1, fun v hv => ?_⟩
        rcases List.mem_cons.1 hv with e | e
        · rw [e]; exact hu
        · exact h2 v e
      · exact .inr ⟨h1, List.mem_cons_of_mem _ h2, h3⟩
    · rw [if_neg hu]
      exact .inr ⟨h u (by simp), by simp, hu⟩

section
variable {x y : Int}
theorem de_mem {o : Nat} (hk : OkZ x y) (ho : o < 2 ^ gN x y) (u : Int) : u ∈ deL x y o ↔ ∃ c : Nat, u = c ∧ c < cN x y ∧ dg x y o c = 1 := by
  unfold deL
  rw [if_pos (okm hk ho), clN_mem]
  refine exists_congr fun c => and_congr_right fun _ => and_congr_right fun _ => ?_
  unfold deB; rw [decide_eq_true_iff, wl_dg]
theorem de_pos {z : Int} : ∀ u ∈ deL x y z, 0 ≤ u := fun u hu => by
  unfold deL at hu
  split at hu
  · obtain ⟨c, e, -⟩ := (clN_mem _ _ _).1 hu; omega
  · cases hu
/-- A round of filling. -/
theorem at_spec {o : Nat} (hk : OkZ x y) (ho : o < 2 ^ gN x y) (K : List Int) :
    (atZ x y o K < 0 ∧ ∀ c, c < cN x y → dg x y o c = 1 → (c : Int) ∈ K) ∨
    ∃ c q g : Nat, atZ x y o K = (c : Int) ∧ c < cN x y ∧ (c : Int) ∉ K ∧ wlZ x y o c = [(q : Int)] ∧ q < 4 ∧ gpZ x y c q = (g : Int) ∧ g < gN x y ∧ bt o g = 1 ∧ fd1 x y o c = ((o - 2 ^ g : Nat) : Int) ∧ o - 2 ^ g < 2 ^ gN x y ∧ pcN o (gN x y) = pcN (o - 2 ^ g) (gN x y) + 1 ∧
      (lp x y o = 0 → lp x y (o - 2 ^ g : Nat) = 0) ∧ ∀ a b, a < cN x y → b < cN x y → a ≠ c → b ≠ c → dZ (stN x y (o - 2 ^ g : Nat)) (cN x y) a b = dZ (stN x y o) (cN x y) a b := by
  unfold atZ
  rcases fs_spec K (deL x y o) de_pos with ⟨h1, h2⟩ | ⟨h1, h2, h3⟩
  · exact .inl ⟨h1, fun c hc hd => h2 _ ((de_mem hk ho _).2 ⟨c, rfl, hc, hd⟩)⟩
  · right
    obtain ⟨c, e, hc, hd⟩ := (de_mem hk ho _).1 h2
    rw [e] at h3 ⊢
    obtain ⟨q, v, g, w1, w2, w3, w4, w5, w6, w7, w8, w9, w10⟩ := fill_one hk ho hc hd
    refine ⟨c, q, g, rfl, hc, h3, w1, w2, w4, w5, w6, ?_, w7, w8, w9, w10⟩
    unfold fd1
    rw [w1, show ([(q : Int)] : List Int).getD 0 0 = (q : Int) from rfl, w4]
    have hs : sgB x y o g = true := decide_eq_true ⟨okm hk ho, by omega, by unfold gN at w5; omega⟩
    unfold sgZ
    rw [if_pos hs, if_pos (by rw [bitZ_bt (by omega) (by omega), Int.toNat_natCast, Int.toNat_natCast, w6]; rfl), if_neg (by decide), Int.natCast_sub (bt_take w6).1]
    simp
/-- What filling leaves. -/
theorem fd_end {K : List Int} (hk : OkZ x y) : ∀ (f o : Nat), o < 2 ^ gN x y → pcN o (gN x y) ≤ f → ∃ o' : Nat, fdN x y K f o = (o' : Int) ∧ o' < 2 ^ gN x y ∧ (lp x y o = 0 → lp x y o' = 0) ∧ (∀ c, c < cN x y → dg x y o' c = 1 → (c : Int) ∈ K) ∧
    ∀ a b, a < cN x y → b < cN x y → (a : Int) ∈ K → (b : Int) ∈ K → dZ (stN x y o') (cN x y) a b = dZ (stN x y o) (cN x y) a b
  | 0, o, ho, hf => by
    refine ⟨o, rfl, ho, fun h => h, fun c hc hd => ?_, fun _ _ _ _ _ _ => rfl⟩
    rcases at_spec hk ho K with ⟨-, h⟩ | ⟨c', q, g, -, -, -, -, -, -, -, -, -, -, h, -⟩
    · exact h c hc hd
    · omega
  | f + 1, o, ho, hf => by
    rcases at_spec hk ho K with ⟨h1, h⟩ | ⟨c, q, g, h1, h2, h3, -, -, -, -, -, h4, h5, h6, h7, h8⟩
    · exact ⟨o, by unfold fdN; rw [if_pos h1], ho, fun h => h, h, fun _ _ _ _ _ _ => rfl⟩
    · obtain ⟨o', e, r1, r2, r3, r4⟩ := fd_end (K := K) hk f (o - 2 ^ g) h5 (by omega)
      refine ⟨o', by rw [fdN, if_neg (by omega), h1, h4]; exact e, r1, fun h => r2 (h7 h), r3, fun a b ha hb hka hkb => ?_⟩
      rw [r4 a b ha hb hka hkb]
      exact h8 a b ha hb (fun e => h3 (by rw [← e]; exact hka)) (fun e => h3 (by rw [← e]; exact hkb))
theorem pc_le24 (o : Nat) : pcN o (gN x y) ≤ gN x y := pcN_le o _
theorem cp_pc2 {o : Nat} (hk : OkZ x y) (ho : o < 2 ^ gN x y) : cpZ x y o = ((pcN o (gN x y) : Nat) : Int) := by
  have hv := okm hk ho
  have := pc_all hv
  unfold cpZ
  rw [if_pos hv, ← this]
  simp [gN]
theorem bs_sum (z : Int) : ∀ n, bsN x y z n = (smN (fun c => (wlZ x y z c).length) n : Int) - 2 * n + 2 * cnt (fun c => (wlZ x y z c).length == 0) n
  | 0 => rfl
  | n + 1 => by
    unfold bsN smN cnt
    rw [bs_sum z n]
    by_cases h : 0 < (wlZ x y z n).length
    · rw [if_pos h, if_neg (by simp; intro e; rw [e] at h; simp at h)]; omega
    · rw [if_neg h, if_pos (by simp; exact List.eq_nil_of_length_eq_zero (by omega))]; omega
theorem nn3 (hk : OkZ x y) : x * y = (cN x y : Int) ∧ 1 ≤ cN x y ∧ cN x y ≤ 16 := by
  obtain ⟨h1, h2, h3, h4⟩ := hk
  have := (mul_bd x y h1 h2 h3 h4).1
  unfold cN; omega
theorem de_len (x y z : Int) : (deL x y z).length ≤ 16 := by
  unfold deL; split
  · rename_i h
    rw [clN_len]
    have := cnt_max (deB x y z) (cN x y)
    have := (nn3 h.1).2.2
    omega
  · simp
theorem jn_len (x y z : Int) : (jnL x y z).length ≤ 16 := by
  unfold jnL; split
  · rename_i h
    rw [clN_len]
    have := cnt_max (jnB x y z) (cN x y)
    have := (nn3 h.1).2.2
    omega
  · simp
/-- What the law of dead ends asks. -/
theorem deads {o : Nat} (hk : OkZ x y) (ho : o < 2 ^ gN x y) (hl : lp x y o = 0) (hp : pt x y o = 1) {a b : Nat} (ha : a < cN x y) (hb : b < cN x y) :
    (1 < cN x y → bsZ x y o = -2 ∧ 2 ≤ (deL x y o).length) ∧ (∀ u ∈ deL x y o, u ∉ jnL x y o) ∧ cpZ x y (fdZ x y o [(a : Int), (b : Int)]) = dsZ x y o a b ∧ dsZ x y (fdZ x y o [(a : Int), (b : Int)]) a b = dsZ x y o a b ∧
    csZ x y o ≤ x * y ∧ cpZ x y (fdZ x y o []) = 0 := by
  have hv := okm hk ho
  obtain ⟨n1, n2, n3⟩ := nn3 hk
  have hg24 : gN x y ≤ 24 := by have := gps_bd hk.1 hk.2.1 hk.2.2.1 hk.2.2.2; unfold gN; omega
  have hpc24 : pcN o (gN x y) ≤ 24 := Nat.le_trans (pc_le24 o) hg24
  have hhas : ∀ {z : Int}, OkM x y z → ∀ c : Nat, c < cN x y → hasB x y z c = true := fun hz c hc => decide_eq_true ⟨hz, by omega, by omega⟩
  have hds : ∀ {o' : Nat}, o' < 2 ^ gN x y → dsZ x y o' a b = dZ (stN x y o') (cN x y) a b := fun h' => by
    unfold dsZ; rw [if_pos ⟨hhas (okm hk h') a ha, hhas (okm hk h') b hb⟩]; simp
  have hcn : Cn x y o a b := by
    obtain ⟨l, h1, h2, h3, -⟩ := least_of (x := x) (y := y) (o := o) ha
    obtain ⟨l', h1', h2', h3', -⟩ := least_of (x := x) (y := y) (o := o) hb
    have hone : cnt (isLeast (stN x y o) (cN x y)) (cN x y) ≤ 1 := by
      have : pt x y o = cnt (isLeast (stN x y o) (cN x y)) (cN x y) := by unfold pt; exact cp_cnt _ _ _
      omega
    have := cnt_one hone (show l < cN x y by omega) (show l' < cN x y by omega) h3 h3'
    subst this
    exact cn_trans h2 (cn_symm h2')
  refine ⟨fun hN => ?_, fun u hu hj => ?_, ?_⟩
  · have hiso : cnt (fun c => dg x y o c == 0) (cN x y) = 0 := by
      obtain ⟨i1, i2⟩ := iso_le (x := x) (y := y) (o := o)
      rcases Nat.eq_zero_or_pos (cnt (fun c => dg x y o c == 0) (cN x y)) with h | h
      · exact h
      · have h0 := i2 (by omega)
        have h5 := dg_sum hk ho
        rw [smN_zero h0] at h5
        unfold lp at hl; omega
    have hsum := dg_sum hk ho
    have e1 : smN (fun c => (wlZ x y o c).length) (cN x y) = smN (dg x y o) (cN x y) := smN_ext fun c _ => wl_dg o c
    have e2 : cnt (fun c => (wlZ x y o c).length == 0) (cN x y) = cnt (fun c => dg x y o c == 0) (cN x y) := cnt_ext fun c _ => by rw [wl_dg]
    refine ⟨?_, ?_⟩
    · unfold bsZ; rw [if_pos hv, bs_sum, e1, e2, hiso, hsum]
      unfold lp at hl; omega
    · unfold deL; rw [if_pos hv, clN_len]
      have e3 : cnt (deB x y o) (cN x y) = cnt (fun c => dg x y o c == 1) (cN x y) := cnt_ext fun c _ => by
        unfold deB; rw [wl_dg, Bool.eq_iff_iff, decide_eq_true_iff, beq_iff_eq]
      have := (ends_low hk ho hl).1
      omega
  · obtain ⟨c, rfl, hc, hd⟩ := (de_mem hk ho u).1 hu
    unfold jnL at hj
    rw [if_pos hv, clN_mem] at hj
    obtain ⟨c', e, -, h⟩ := hj
    obtain rfl : c = c' := by omega
    have := of_decide_eq_true h
    rw [wl_dg] at this; omega
  · have hke : keB x y o [(a : Int), (b : Int)] = true := by unfold keB; simp [hhas hv a ha, hhas hv b hb]
    obtain ⟨o1, e1, r1, r2, r3, r4⟩ := fd_end (K := [(a : Int), (b : Int)]) hk 24 o ho hpc24
    obtain ⟨o2, e2, s1, s2, s3, -⟩ := fd_end (K := []) hk 24 o ho hpc24
    have hf1 : fdZ x y o [(a : Int), (b : Int)] = (o1 : Int) := by unfold fdZ; rw [if_pos hke, e1]
    have hf2 : fdZ x y o [] = (o2 : Int) := by unfold fdZ; rw [if_pos (show keB x y o [] = true from rfl), e2]
    have hd := r4 a b ha hb (by simp) (by simp)
    have hcn1 : Cn x y o1 a b := (cn_iff ha b).1 (by rw [hd]; exact (cn_iff ha b).2 hcn)
    rw [hf1, hf2, hds ho, hds r1, hd, cp_pc2 hk r1, cp_pc2 hk s1]
    refine ⟨?_, rfl, ?_, ?_⟩
    · rw [one_left hk r1 (r2 hl) ha hb hcn1 fun c hc h => by have := r3 c hc h; simp at this; omega, hd]
    · unfold csZ; rw [if_pos hv]
      have := cnt_max (csB x y o) (cN x y)
      omega
    · have hc0 : cnt (fun c => dg x y o2 c == 1) (cN x y) = 0 := cnt_none fun c hc => by
        have h := fun h => s3 c hc h
        simp at h
        simpa using h
      have := (no_ends hk s1 (s2 hl) (by omega)).1
      omega
end
end Go.Proofs.Ytcoikcnijaniaaa.deadR
