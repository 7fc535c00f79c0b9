/- Dead ends, without the program: how many ways lead on from the cells, sums over the cells, and what filling dead ends leaves. -/
import Derived.Test.YthgnhamokikhkaaForest
import Derived.Test.YthgnhamokikhkaaMzB
namespace Go.Proofs.Ythgnhamokikhkaa.deadP
open gridP gridQ bitP mazeP mazeQ reachP reachM reachN reachD forest
set_option linter.unusedVariables false

/-! ### counts and sums -/
def smN (f : Nat → Nat) : Nat → Nat
  | 0 => 0
  | n + 1 => smN f n + f n
theorem smN_ext {f g : Nat → Nat} : ∀ {n : Nat}, (∀ k, k < n → f k = g k) → smN f n = smN g n
  | 0, _ => rfl
  | n + 1, h => by unfold smN; rw [smN_ext (n := n) fun k hk => h k (by omega), h n (by omega)]
theorem smN_one {f g : Nat → Nat} {a : Nat} : ∀ {n : Nat}, (∀ k, k < n → g k = f k + if k = a then 1 else 0) → smN g n = smN f n + if a < n then 1 else 0
  | 0, _ => by simp [smN]
  | n + 1, h => by
    unfold smN
    rw [smN_one (n := n) fun k hk => h k (by omega), h n (by omega)]
    by_cases h1 : a < n
    · rw [if_pos h1, if_neg (by omega), if_pos (by omega)]; omega
    · by_cases h2 : n = a
      · rw [if_neg h1, if_pos h2, if_pos (by omega)]; omega
      · rw [if_neg h1, if_neg h2, if_neg (by omega)]; omega
theorem smN_two {f g : Nat → Nat} {a b n : Nat} (hab : a ≠ b) (ha : a < n) (hb : b < n) (h : ∀ k, k < n → g k = f k + if k = a ∨ k = b then 1 else 0) : smN g n = smN f n + 2 := by
  have h1 : smN (fun k => f k + if k = a then 1 else 0) n = smN f n + 1 := by
    have := smN_one (f := f) (g := fun k => f k + if k = a then 1 else 0) (a := a) (n := n) fun k hk => rfl
    rw [this, if_pos ha]
  have h2 : smN g n = smN (fun k => f k + if k = a then 1 else 0) n + 1 := by
    have := smN_one (f := fun k => f k + if k = a then 1 else 0) (g := g) (a := b) (n := n) fun k hk => by
      rw [h k hk]
      by_cases e1 : k = a
      · rw [if_pos (.inl e1), if_pos e1, if_neg (by omega)]
      · by_cases e2 : k = b
        · rw [if_pos (.inr e2), if_neg e1, if_pos e2]
        · rw [if_neg (by omega), if_neg e1, if_neg e2]
    rw [this, if_pos hb]
  omega
theorem smN_zero {f : Nat → Nat} : ∀ {n : Nat}, (∀ k, k < n → f k = 0) → smN f n = 0
  | 0, _ => rfl
  | n + 1, h => by unfold smN; rw [smN_zero (n := n) fun k hk => h k (by omega), h n (by omega)]
theorem smN_null {f : Nat → Nat} : ∀ {n : Nat}, smN f n = 0 → ∀ k, k < n → f k = 0
  | 0, _, k, hk => absurd hk (by omega)
  | n + 1, h, k, hk => by
    unfold smN at h
    rcases Nat.lt_or_ge k n with h' | h'
    · exact smN_null (by omega) k h'
    · obtain rfl : k = n := by omega
      omega
/-- A sum of summands that are at least 2. -/
theorem smN_low {f : Nat → Nat} : ∀ {n : Nat}, (∀ k, k < n → 2 ≤ f k) → 2 * n ≤ smN f n ∧ (smN f n ≤ 2 * n → ∀ k, k < n → f k = 2)
  | 0, _ => ⟨Nat.le_refl _, fun _ k hk => absurd hk (by omega)⟩
  | n + 1, h => by
    obtain ⟨h1, h2⟩ := smN_low (n := n) fun k hk => h k (by omega)
    have h3 := h n (by omega)
    unfold smN
    refine ⟨by omega, fun he k hk => ?_⟩
    rcases Nat.lt_or_ge k n with h' | h'
    · exact h2 (by omega) k h'
    · obtain rfl : k = n := by omega
      omega
/-- A number of ways, completed to at least 2. -/
def exN (d : Nat → Nat) (k : Nat) : Nat := d k + (if d k = 1 then 1 else 0) + (if d k = 0 then 2 else 0)
theorem ex_sum (d : Nat → Nat) : ∀ n, smN (exN d) n = smN d n + cnt (fun k => d k == 1) n + 2 * cnt (fun k => d k == 0) n
  | 0 => rfl
  | n + 1 => by
    unfold smN cnt exN
    rw [show smN (fun k => d k + (if d k = 1 then 1 else 0) + (if d k = 0 then 2 else 0)) n = smN (exN d) n from rfl, ex_sum d n]
    simp only [beq_iff_eq]
    split <;> split <;> omega
theorem ex_low (d : Nat → Nat) (k : Nat) : 2 ≤ exN d k := by
  unfold exN
  split <;> split <;> omega
theorem cnt_le {p q : Nat → Bool} : ∀ {n : Nat}, (∀ k, k < n → p k = true → q k = true) → cnt p n ≤ cnt q n ∧ (cnt q n ≤ cnt p n → ∀ k, k < n → q k = true → p k = true)
  | 0, _ => ⟨Nat.le_refl _, fun _ k hk => absurd hk (by omega)⟩
  | n + 1, h => by
    obtain ⟨h1, h2⟩ := cnt_le (n := n) fun k hk => h k (by omega)
    have h3 := h n (by omega)
    unfold cnt
    cases hp : p n with
    | true =>
      rw [h3 hp]
      refine ⟨by simp; omega, fun he k hk hq => ?_⟩
      rcases Nat.lt_or_ge k n with h' | h'
      · exact h2 (by simp at he; omega) k h' hq
      · obtain rfl : k = n := by omega
        exact hp
    | false =>
      refine ⟨by simp; omega, fun he k hk hq => ?_⟩
      have hqn : q n = false := by
        cases hqn : q n with
        | false => rfl
        | true => rw [hqn] at he; simp at he; omega
      rcases Nat.lt_or_ge k n with h' | h'
      · rw [hqn] at he; exact h2 (by simp at he; omega) k h' hq
      · obtain rfl : k = n := by omega
        rw [hqn] at hq; cases hq
theorem cnt_none {p : Nat → Bool} : ∀ {n : Nat}, (∀ k, k < n → p k = false) → cnt p n = 0
  | 0, _ => rfl
  | n + 1, h => by unfold cnt; rw [cnt_none (n := n) fun k hk => h k (by omega), h n (by omega)]; rfl
theorem cnt_pos {p : Nat → Bool} {k : Nat} : ∀ {n : Nat}, k < n → p k = true → 1 ≤ cnt p n
  | 0, hk, _ => absurd hk (by omega)
  | n + 1, hk, h => by
    unfold cnt
    rcases Nat.lt_or_ge k n with h' | h'
    · have := cnt_pos (n := n) h' h; omega
    · obtain rfl : k = n := by omega
      rw [h]; simp
theorem cnt_some {p : Nat → Bool} : ∀ {n : Nat}, 1 ≤ cnt p n → ∃ k, k < n ∧ p k = true
  | 0, h => absurd h (by simp [cnt])
  | n + 1, h => by
    cases hp : p n with
    | true => exact ⟨n, by omega, hp⟩
    | false =>
      unfold cnt at h; rw [hp] at h
      obtain ⟨k, hk, h'⟩ := cnt_some (n := n) (by simpa using h)
      exact ⟨k, by omega, h'⟩
theorem cnt_split {p : Nat → Bool} {n a : Nat} (ha : a < n) (hp : p a = true) : cnt p n = cnt (fun k => p k && k != a) n + 1 :=
  cnt_del hp (by simp) ha fun k hk hne => by simp [hne]
theorem cnt_one {p : Nat → Bool} {n a b : Nat} (h : cnt p n ≤ 1) (ha : a < n) (hb : b < n) (hpa : p a = true) (hpb : p b = true) : a = b := by
  apply Classical.byContradiction
  intro hne
  have h1 := cnt_split ha hpa
  have h2 := cnt_pos (p := fun k => p k && k != a) hb (by simp [hpb]; omega)
  omega
theorem cnt_two {p : Nat → Bool} {n a b c : Nat} (h : cnt p n ≤ 2) (ha : a < n) (hb : b < n) (hc : c < n) (hpa : p a = true) (hpb : p b = true) (hpc : p c = true) (hab : a ≠ b) : c = a ∨ c = b := by
  apply Classical.byContradiction
  intro hne
  have h1 := cnt_split ha hpa
  have := cnt_one (p := fun k => p k && k != a) (n := n) (by omega) hb hc (by simp [hpb]; omega) (by simp [hpc]; omega)
  omega
theorem cnt_single (a : Nat) : ∀ n, cnt (fun k => k == a) n ≤ 1
  | 0 => by simp [cnt]
  | n + 1 => by
    unfold cnt
    by_cases e : n = a
    · subst e
      rw [cnt_none (n := n) fun k hk => by simp; omega]; simp
    · have := cnt_single a n
      simp [e]; omega
theorem cnt_keep {p : Nat → Bool} {n a b : Nat} (h : ∀ k, k < n → p k = true → k = a ∨ k = b) : cnt p n ≤ 2 ∧ (a = b → cnt p n ≤ 1) := by
  by_cases ha : a < n ∧ p a = true
  · have h1 := cnt_split ha.1 ha.2
    have h2 := (cnt_le (p := fun k => p k && k != a) (q := fun k => k == b) (n := n) fun k hk hp => by
      simp at hp ⊢
      rcases h k hk hp.1 with e | e
      · exact absurd e hp.2
      · exact e).1
    have h3 := cnt_single b n
    refine ⟨by omega, fun e => ?_⟩
    have h4 := (cnt_le (p := p) (q := fun k => k == a) (n := n) fun k hk hp => by
      simp
      rcases h k hk hp with e' | e' <;> omega).1
    have h5 := cnt_single a n
    omega
  · have h4 := (cnt_le (p := p) (q := fun k => k == b) (n := n) fun k hk hp => by
      simp
      rcases h k hk hp with e' | e'
      · subst e'; exact absurd ⟨hk, hp⟩ ha
      · exact e').1
    have h5 := cnt_single b n
    exact ⟨by omega, fun _ => by omega⟩
theorem cnt_diff {p q : Nat → Bool} : ∀ {n : Nat}, (∀ k, k < n → q k = true → p k = true) → cnt p n = cnt q n + cnt (fun k => p k && !q k) n
  | 0, _ => rfl
  | n + 1, h => by
    unfold cnt
    rw [cnt_diff (n := n) fun k hk => h k (by omega)]
    have := h n (by omega)
    cases hp : p n <;> cases hq : q n <;> simp_all <;> omega
/-- How many cells a row of different cells has. -/
theorem cnt_img {n : Nat} (f : Nat → Nat) : ∀ {D : Nat} {p : Nat → Bool}, (∀ u, u < n → (p u = true ↔ ∃ i, i < D ∧ u = f i)) → (∀ i j, i < D → j < D → f i = f j → i = j) → (∀ i, i < D → f i < n) → cnt p n = D
  | 0, p, h, _, _ => cnt_none fun k hk => by
    cases hp : p k with
    | false => rfl
    | true => obtain ⟨i, hi, -⟩ := (h k hk).1 hp; omega
  | D + 1, p, h, hinj, hlt => by
    have h1 := cnt_split (p := p) (hlt D (by omega)) ((h _ (hlt D (by omega))).2 ⟨D, by omega, rfl⟩)
    have h2 := cnt_img f (D := D) (p := fun k => p k && k != f D) (fun u hu => by
      simp
      rw [h u hu]
      refine ⟨fun ⟨⟨i, hi, e⟩, hne⟩ => ⟨i, ?_, e⟩, fun ⟨i, hi, e⟩ => ⟨⟨i, by omega, e⟩, fun e' => ?_⟩⟩
      · rcases Nat.lt_or_ge i D with h' | h'
        · exact h'
        · obtain rfl : i = D := by omega
          exact absurd e hne
      · have := hinj i D (by omega) (by omega) (by omega)
        omega) (fun i j hi hj => hinj i j (by omega) (by omega)) (fun i hi => hlt i (by omega))
    omega

/-! ### ways from a cell -/
section
variable {x y : Int}
/-- How many ways lead on from a cell. -/
def dg (x y : Int) (o c : Nat) : Nat := cnt (fun q => decide (0 ≤ stN x y o c q)) 4
theorem wl_cnt (x y z k : Int) : ∀ n, (wlN x y z k n).length = cnt (fun q => decide (0 ≤ stZ x y z k q)) n
  | 0 => rfl
  | n + 1 => by
    unfold wlN cnt
    rw [← wl_cnt x y z k n]
    by_cases h : 0 ≤ stZ x y z k n
    · rw [if_pos h, decide_eq_true h]; simp
    · rw [if_neg h, decide_eq_false h]; simp
theorem wl_dg (o c : Nat) : (wlZ x y o c).length = dg x y o c := wl_cnt x y o c 4
theorem gaps_fin : ∀ w h : Fin 4, ∀ c : Fin 16, ∀ g : Fin 24, (((w : Nat) + 1) * ((h : Nat) + 1) ≤ (c : Nat)) ∨ (gpsZ ((w : Nat) + 1) ((h : Nat) + 1) ≤ (g : Nat)) ∨
    cnt (fun q => gpZ ((w : Nat) + 1) ((h : Nat) + 1) (c : Nat) (q : Nat) == ((g : Nat) : Int)) 4 = if ((c : Nat) : Int) = eaZ ((w : Nat) + 1) ((h : Nat) + 1) (g : Nat) ∨ ((c : Nat) : Int) = ebZ ((w : Nat) + 1) ((h : Nat) + 1) (g : Nat) then 1 else 0 := by decide +kernel
theorem gaps_of {c g : Nat} (hk : OkZ x y) (hc : c < cN x y) (hg : g < gN x y) : cnt (fun q => gpZ x y c (q : Nat) == (g : Int)) 4 = if c = aN x y g ∨ c = bN x y g then 1 else 0 := by
  obtain ⟨-, -, e1, e2⟩ := ends_lt hk hg
  obtain ⟨h1, h2, h3, h4⟩ := hk
  have hb := gps_bd h1 h2 h3 h4
  have hm := (mul_bd x y h1 h2 h3 h4).1
  unfold gN at hg
  unfold cN at hc
  have := gaps_fin ⟨(x - 1).toNat, by omega⟩ ⟨(y - 1).toNat, by omega⟩ ⟨c, by omega⟩ ⟨g, by omega⟩
  simp only [show (((x - 1).toNat : Nat) : Int) + 1 = x by omega, show (((y - 1).toNat : Nat) : Int) + 1 = y by omega] at this
  rcases this with h | h | h
  · have e : ((((x - 1).toNat + 1) * ((y - 1).toNat + 1) : Nat) : Int) = x * y := by
      rw [Int.natCast_mul, show (((x - 1).toNat + 1 : Nat) : Int) = x by omega, show (((y - 1).toNat + 1 : Nat) : Int) = y by omega]
    omega
  · omega
  · rw [h, e1, e2]
    have : ((c : Int) = (aN x y g : Int) ∨ (c : Int) = (bN x y g : Int)) ↔ (c = aN x y g ∨ c = bN x y g) := by omega
    by_cases hh : c = aN x y g ∨ c = bN x y g
    · rw [if_pos hh, if_pos (this.2 hh)]
    · rw [if_neg hh, if_neg (fun e => hh (this.1 e))]
/-- Whether a step leads on, by its gap. -/
theorem st_iff {o c q : Nat} (hv : OkM x y o) : 0 ≤ stN x y o c q ↔ ∃ g : Nat, gpZ x y c q = (g : Int) ∧ bt o g = 1 := by
  by_cases hn : nbZ x y c q < 0
  · refine ⟨fun h => absurd h (st_neg hn), fun ⟨g, h, _⟩ => ?_⟩
    unfold gpZ at h; rw [if_pos hn] at h; omega
  · have h0 := (both x y c q hn).1
    unfold stN
    rw [st_pos hv hn, Int.toNat_natCast]
    refine ⟨fun h => ⟨(gpZ x y c q).toNat, by omega, h⟩, fun ⟨g, h, hb⟩ => by rw [h]; simpa using hb⟩
theorem cnt_or {p q r : Nat → Bool} : ∀ {n : Nat}, (∀ k, k < n → r k = (p k || q k)) → (∀ k, k < n → p k = true → q k = true → False) → cnt r n = cnt p n + cnt q n
  | 0, _, _ => rfl
  | n + 1, h, hd => by
    unfold cnt
    rw [cnt_or (n := n) (fun k hk => h k (by omega)) (fun k hk => hd k (by omega)), h n (by omega)]
    have := hd n (by omega)
    cases hp : p n <;> cases hq : q n <;> simp_all <;> omega
theorem dg_add {o g c : Nat} (hk : OkZ x y) (ho : o < 2 ^ gN x y) (hg : g < gN x y) (hb : bt o g = 0) (hc : c < cN x y) : dg x y (o + 2 ^ g) c = dg x y o c + if c = aN x y g ∨ c = bN x y g then 1 else 0 := by
  have hv := okm hk ho
  have hv' := okm hk (add_lt ho hg hb)
  rw [← gaps_of hk hc hg]
  refine cnt_or (fun q hq => ?_) (fun q hq h1 h2 => ?_)
  · rw [Bool.eq_iff_iff, Bool.or_eq_true, decide_eq_true_iff, decide_eq_true_iff, st_iff hv, st_iff hv', beq_iff_eq]
    refine ⟨fun ⟨j, h, hj⟩ => ?_, ?_⟩
    · rw [bt_add hb] at hj
      split at hj
      · rename_i e; subst e; exact .inr h
      · exact .inl ⟨j, h, hj⟩
    · rintro (⟨j, h, hj⟩ | h)
      · refine ⟨j, h, ?_⟩
        rw [bt_add hb]; split
        · rfl
        · exact hj
      · exact ⟨g, h, by rw [bt_add hb, if_pos rfl]⟩
  · rw [decide_eq_true_iff, st_iff hv] at h1
    obtain ⟨j, h, hj⟩ := h1
    have h2' : gpZ x y c q = (g : Int) := by simpa using h2
    have : j = g := by omega
    subst this; omega
theorem dg_none {c : Nat} (hk : OkZ x y) : dg x y 0 c = 0 := cnt_none fun q hq => by
  rw [decide_eq_false_iff_not, st_iff (okm hk (Nat.pow_pos (by decide)))]
  rintro ⟨g, -, hb⟩
  simp [bt] at hb
/-- The ways of all cells are twice the passages. -/
theorem dg_sum {o : Nat} (hk : OkZ x y) (ho : o < 2 ^ gN x y) : smN (dg x y o) (cN x y) = 2 * pcN o (gN x y) := by
  have key : ∀ k, k ≤ gN x y → smN (dg x y (o % 2 ^ k)) (cN x y) = 2 * pcN (o % 2 ^ k) (gN x y) := by
    intro k
    induction k with
    | zero =>
      intro _
      rw [Nat.pow_zero, Nat.mod_one, smN_zero fun c hc => dg_none hk]
      have : ∀ k, pcN 0 k = 0 := fun k => by
        induction k with
        | zero => rfl
        | succ k ih => rw [pcN, ih]; simp
      rw [this]
    | succ k ih =>
      intro hkG
      have ih := ih (by omega)
      have hlt : o % 2 ^ k < 2 ^ gN x y := Nat.lt_of_lt_of_le (Nat.mod_lt _ (Nat.pow_pos (by decide))) (Nat.pow_le_pow_right (by decide) (by omega))
      have h0 : bt (o % 2 ^ k) k = 0 := by rw [bt_mod, if_neg (by omega)]
      rw [mod_next]
      have hb := bt_le o k
      by_cases h : bt o k = 1
      · rw [h, Nat.mul_one, pc_add h0 (by omega)]
        obtain ⟨e1, e2, -, -⟩ := ends_lt hk (show k < gN x y by omega)
        rw [smN_two (f := dg x y (o % 2 ^ k)) (a := aN x y k) (b := bN x y k) (by omega) (by omega) e2 fun c hc => dg_add hk hlt (by omega) h0 hc, ih]
        omega
      · rw [show bt o k = 0 by omega, Nat.mul_zero, Nat.add_zero]; exact ih
  have := key (gN x y) (Nat.le_refl _)
  rwa [Nat.mod_eq_of_lt ho] at this
/-- From a cell without ways nothing is reached. -/
theorem iso_wk {o c n v : Nat} (hd : dg x y o c = 0) (h : Wk (stN x y o) c n v) : v = c := by
  induction h with
  | zero => rfl
  | @step n u q v _ hq hs ih =>
    subst ih
    have := cnt_pos (p := fun q => decide (0 ≤ stN x y o u q)) (n := 4) hq (decide_eq_true (by rw [hs]; omega))
    unfold dg at hd; omega
theorem iso_cn {o c v : Nat} (hd : dg x y o c = 0) (h : Cn x y o c v) : v = c := let ⟨_, h⟩ := h; iso_wk hd h
theorem iso_least {o c : Nat} (hc : c < cN x y) (hd : dg x y o c = 0) : isLeast (stN x y o) (cN x y) c = true := (least_iff hc).2 fun j hj hcn => by have := iso_cn hd hcn; omega
/-- Ends, lonely cells and parts: ends are at least twice the parts that are no lonely cells; where they are just twice, every cell has at most two ways. -/
theorem ends_low {o : Nat} (hk : OkZ x y) (ho : o < 2 ^ gN x y) (hl : lp x y o = 0) :
    2 * pt x y o ≤ cnt (fun c => dg x y o c == 1) (cN x y) + 2 * cnt (fun c => dg x y o c == 0) (cN x y) ∧
    (cnt (fun c => dg x y o c == 1) (cN x y) + 2 * cnt (fun c => dg x y o c == 0) (cN x y) ≤ 2 * pt x y o → ∀ c, c < cN x y → dg x y o c ≤ 2) := by
  have h1 := dg_sum hk ho
  have h2 := ex_sum (dg x y o) (cN x y)
  obtain ⟨h3, h4⟩ := smN_low (f := exN (dg x y o)) (n := cN x y) fun k _ => ex_low _ k
  unfold lp at hl
  refine ⟨by omega, fun h c hc => ?_⟩
  have := h4 (by omega) c hc
  unfold exN at this
  split at this <;> split at this <;> omega
theorem iso_le {o : Nat} : cnt (fun c => dg x y o c == 0) (cN x y) ≤ pt x y o ∧ (pt x y o ≤ cnt (fun c => dg x y o c == 0) (cN x y) → ∀ c, c < cN x y → dg x y o c = 0) := by
  have he : pt x y o = cnt (isLeast (stN x y o) (cN x y)) (cN x y) := by unfold pt; rw [cp_cnt]
  obtain ⟨h1, h2⟩ := cnt_le (p := fun c => dg x y o c == 0) (q := isLeast (stN x y o) (cN x y)) (n := cN x y) fun c hc h => iso_least hc (by simpa using h)
  rw [he]
  refine ⟨h1, fun h c hc => ?_⟩
  obtain ⟨l, hlc, hcn, hle, -⟩ := least_of (x := x) (y := y) (o := o) hc
  have := h2 h l (by omega) hle
  have hd : dg x y o l = 0 := by simpa using this
  have := iso_cn hd (cn_symm hcn)
  subst this; exact hd
/-- Without ends there is no passage. -/
theorem no_ends {o : Nat} (hk : OkZ x y) (ho : o < 2 ^ gN x y) (hl : lp x y o = 0) (h : cnt (fun c => dg x y o c == 1) (cN x y) ≤ 1) : pcN o (gN x y) = 0 ∧ ∀ c, c < cN x y → dg x y o c = 0 := by
  obtain ⟨h1, -⟩ := ends_low hk ho hl
  obtain ⟨h2, h3⟩ := iso_le (x := x) (y := y) (o := o)
  have h4 := h3 (by omega)
  have h5 := dg_sum hk ho
  rw [smN_zero h4] at h5
  exact ⟨by omega, h4⟩
end
end Go.Proofs.Ythgnhamokikhkaa.deadP
