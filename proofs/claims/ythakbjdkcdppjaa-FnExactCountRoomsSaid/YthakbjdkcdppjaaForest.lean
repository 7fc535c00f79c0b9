/- Parts and loops of a maze, without the program: opening a gap joins two parts or makes a loop. -/
import Derived.Test.YthakbjdkcdppjaaPlain
namespace Go.Proofs.Ythakbjdkcdppjaa.forest
open gridP gridQ bitP mazeP mazeQ reachP reachM reachN
set_option linter.unusedVariables false

/-- How many numbers below n have a property. -/
def cnt (p : Nat → Bool) : Nat → Nat
  | 0 => 0
  | n + 1 => cnt p n + if p n = true then 1 else 0
theorem cnt_ext {p q : Nat → Bool} : ∀ {n : Nat}, (∀ k, k < n → p k = q k) → cnt p n = cnt q n
  | 0, _ => rfl
  | n + 1, h => by
    unfold cnt
    rw [cnt_ext (n := n) fun k hk => h k (by omega), h n (by omega)]
theorem cnt_del {p q : Nat → Bool} {c : Nat} (hp : p c = true) (hq : q c = false) : ∀ {n : Nat}, c < n → (∀ k, k < n → k ≠ c → p k = q k) → cnt p n = cnt q n + 1
  | 0, h, _ => absurd h (by omega)
  | n + 1, h, he => by
    unfold cnt
    by_cases e : c = n
    · subst e
      rw [cnt_ext (p := p) (q := q) fun k hk => he k (by omega) (by omega), hp, hq]
      rfl
    · rw [cnt_del hp hq (n := n) (by omega) fun k hk => he k (by omega), he n (by omega) (by omega)]
      omega
theorem cnt_all {p : Nat → Bool} : ∀ {n : Nat}, (∀ k, k < n → p k = true) → cnt p n = n
  | 0, _ => rfl
  | n + 1, h => by unfold cnt; rw [cnt_all (n := n) fun k hk => h k (by omega), h n (by omega)]; rfl
theorem cp_cnt (st : Nat → Nat → Int) (N : Nat) : ∀ n, cpN st N n = cnt (isLeast st N) n
  | 0 => rfl
  | n + 1 => by rw [cpN, cnt, cp_cnt st N n]

/-! ### bits -/
theorem bt_lt {n G g : Nat} (h : n < 2 ^ G) (hg : G ≤ g) : bt n g = 0 := by
  unfold bt
  rw [Nat.div_eq_of_lt (Nat.lt_of_lt_of_le h (Nat.pow_le_pow_right (by decide) hg))]
theorem bt_test (n g : Nat) : n.testBit g = decide (bt n g = 1) := tb n g
theorem bt_eq {n m : Nat} {g : Nat} (h : n.testBit g = m.testBit g) : bt n g = bt m g := by
  rw [bt_test, bt_test] at h
  have h1 := bt_le n g
  have h2 := bt_le m g
  have := decide_eq_decide.1 h
  omega
theorem bt_add {n g : Nat} (h : bt n g = 0) (j : Nat) : bt (n + 2 ^ g) j = if j = g then 1 else bt n j := by
  have he : n ||| 2 ^ g = n + 2 ^ g := or_clear h
  have ht : (n + 2 ^ g).testBit j = (n.testBit j || decide (g = j)) := by rw [← he, Nat.testBit_or, Nat.testBit_two_pow]
  by_cases hj : j = g
  · rw [if_pos hj]
    rw [hj] at ht ⊢
    rw [bt_test] at ht
    simpa using ht
  · rw [if_neg hj]
    refine bt_eq ?_
    rw [ht]
    have : ¬ g = j := fun e => hj e.symm
    simp [this]
theorem bt_mod (n k g : Nat) : bt (n % 2 ^ k) g = if g < k then bt n g else 0 := by
  split
  · rename_i h
    refine bt_eq ?_
    rw [Nat.testBit_mod_two_pow]; simp [h]
  · rename_i h
    exact bt_lt (Nat.mod_lt _ (Nat.pow_pos (by decide))) (by omega)
theorem mod_next (n k : Nat) : n % 2 ^ (k + 1) = n % 2 ^ k + 2 ^ k * bt n k := by
  unfold bt
  rw [Nat.pow_succ, Nat.mod_mul]
theorem pc_add {n g G : Nat} (h : bt n g = 0) (hg : g < G) : pcN (n + 2 ^ g) G = pcN n G + 1 := by
  have key : ∀ k, pcN (n + 2 ^ g) k = pcN n k + if g < k then 1 else 0 := by
    intro k
    induction k with
    | zero => simp [pcN]
    | succ k ih =>
      have e : ∀ m : Nat, pcN m (k + 1) = pcN m k + bt m k := fun m => rfl
      rw [e, e, ih, bt_add h k]
      by_cases hk : k = g
      · subst hk; rw [h]; simp
      · rw [if_neg hk]
        by_cases h1 : g < k
        · rw [if_pos h1, if_pos (by omega)]; omega
        · rw [if_neg h1, if_neg (by omega)]; omega
  rw [key G, if_pos hg]
theorem add_lt {n g G : Nat} (hn : n < 2 ^ G) (hg : g < G) (h : bt n g = 0) : n + 2 ^ g < 2 ^ G := by
  have h1 : ∀ j, G ≤ j → (n + 2 ^ g).testBit j = false := fun j hj => by
    rw [bt_test, bt_add h j, if_neg (by omega), bt_lt hn hj]; rfl
  exact Nat.lt_pow_two_of_testBit _ h1

/-! ### connections -/
section
variable {x y : Int}
/-- Whether a walk leads from one cell to another. -/
def Cn (x y : Int) (o u v : Nat) : Prop := ∃ n, Wk (stN x y o) u n v
theorem cn_refl (o u : Nat) : Cn x y o u u := ⟨0, .zero⟩
theorem cn_symm {o u v : Nat} (h : Cn x y o u v) : Cn x y o v u := let ⟨n, h⟩ := h; ⟨n, wk_rev (fun u q v h1 h2 => stN_back h1 h2) h⟩
theorem cn_trans {o u v t : Nat} (h : Cn x y o u v) (h' : Cn x y o v t) : Cn x y o u t := let ⟨n, h⟩ := h; let ⟨m, h'⟩ := h'; ⟨n + m, wk_trans h h'⟩
theorem cn_comm {o u v : Nat} : Cn x y o u v ↔ Cn x y o v u := ⟨cn_symm, cn_symm⟩

/-- The ends of a gap. -/
def aN (x y : Int) (g : Nat) : Nat := (eaZ x y g).toNat
def bN (x y : Int) (g : Nat) : Nat := (ebZ x y g).toNat
/-- How many gaps a grid has. -/
def gN (x y : Int) : Nat := (gpsZ x y).toNat
theorem ends_fin : ∀ w h : Fin 4, ∀ g : Fin 24, (gpsZ ((w : Nat) + 1) ((h : Nat) + 1) ≤ (g : Nat)) ∨ ((0 ≤ eaZ ((w : Nat) + 1) ((h : Nat) + 1) (g : Nat) ∧ eaZ ((w : Nat) + 1) ((h : Nat) + 1) (g : Nat) < ebZ ((w : Nat) + 1) ((h : Nat) + 1) (g : Nat) ∧ ebZ ((w : Nat) + 1) ((h : Nat) + 1) (g : Nat) < ((w : Nat) + 1) * ((h : Nat) + 1)) ∧
    (List.range 4).any fun q => nbZ ((w : Nat) + 1) ((h : Nat) + 1) (eaZ ((w : Nat) + 1) ((h : Nat) + 1) (g : Nat)) (q : Nat) == ebZ ((w : Nat) + 1) ((h : Nat) + 1) (g : Nat) && gpZ ((w : Nat) + 1) ((h : Nat) + 1) (eaZ ((w : Nat) + 1) ((h : Nat) + 1) (g : Nat)) (q : Nat) == ((g : Nat) : Int)) := by decide +kernel
theorem ends {g : Nat} (hk : OkZ x y) (hg : g < gN x y) : (0 ≤ eaZ x y g ∧ eaZ x y g < ebZ x y g ∧ ebZ x y g < x * y) ∧ ∃ q, q < 4 ∧ nbZ x y (eaZ x y g) (q : Nat) = ebZ x y g ∧ gpZ x y (eaZ x y g) (q : Nat) = g := by
  obtain ⟨h1, h2, h3, h4⟩ := hk
  have hb := gps_bd h1 h2 h3 h4
  unfold gN at hg
  have := ends_fin ⟨(x - 1).toNat, by omega⟩ ⟨(y - 1).toNat, by omega⟩ ⟨g, by omega⟩
  simp only [show (((x - 1).toNat : Nat) : Int) + 1 = x by omega, show (((y - 1).toNat : Nat) : Int) + 1 = y by omega] at this
  rcases this with h | ⟨h, h'⟩
  · omega
  · refine ⟨h, ?_⟩
    rw [List.any_eq_true] at h'
    obtain ⟨q, hq, hh⟩ := h'
    rw [Bool.and_eq_true] at hh
    exact ⟨q, List.mem_range.1 hq, by simpa using hh.1, by simpa using hh.2⟩
theorem ends_lt {g : Nat} (hk : OkZ x y) (hg : g < gN x y) : aN x y g < bN x y g ∧ bN x y g < cN x y ∧ eaZ x y g = (aN x y g : Int) ∧ ebZ x y g = (bN x y g : Int) := by
  obtain ⟨⟨h1, h2, h3⟩, -⟩ := ends hk hg
  unfold aN bN cN
  omega

/-- The maze of a number. -/
theorem okm {o : Nat} (hk : OkZ x y) (ho : o < 2 ^ gN x y) : OkM x y o := by
  refine ⟨hk, by omega, ?_⟩
  unfold topZ
  have : ((2 ^ gN x y : Nat) : Int) = (2 : Int) ^ (gpsZ x y).toNat := by unfold gN; norm_cast
  omega
theorem okm_of {z : Int} (h : OkM x y z) : OkZ x y ∧ ∃ o : Nat, z = o ∧ o < 2 ^ gN x y := by
  obtain ⟨hk, h0, h1⟩ := h
  refine ⟨hk, z.toNat, by omega, ?_⟩
  unfold topZ at h1
  have : ((2 ^ gN x y : Nat) : Int) = (2 : Int) ^ (gpsZ x y).toNat := by unfold gN; norm_cast
  omega
theorem nb_ne (k q : Int) : nbZ x y k q ≠ k ∨ nbZ x y k q < 0 := by
  unfold nbZ; repeat' split
  all_goals omega
/-- A step goes through an open gap. -/
theorem step_gap {o u q v : Nat} (hv : OkM x y o) (hs : stN x y o u q = (v : Int)) : ∃ g, g < gN x y ∧ bt o g = 1 ∧ ((u = aN x y g ∧ v = bN x y g) ∨ (u = bN x y g ∧ v = aN x y g)) := by
  have hn : ¬ nbZ x y u q < 0 := by
    intro h
    have := st_neg (w := x) (h := y) (o := o) (k := u) (d := q) h
    unfold stN at hs; omega
  have hp := st_pos (k := (u : Int)) (d := (q : Int)) hv hn
  have h0 : 0 ≤ stZ x y o u q := by unfold stN at hs; omega
  have hb := hp.1 h0
  have hnb : nbZ x y u q = v := by
    unfold stN stZ at hs
    split at hs
    · exact hs
    · omega
  obtain ⟨b1, b2, b3, b4, b5, b6⟩ := both x y u q hn
  have hlt := gp_lt x y u q hn
  refine ⟨(gpZ x y u q).toNat, by unfold gN; omega, by simpa using hb, ?_⟩
  have hg : ((gpZ x y u q).toNat : Int) = gpZ x y u q := by omega
  have he := (ends (g := (gpZ x y u q).toNat) hv.1 (by unfold gN; omega)).1
  rw [hg] at he
  unfold aN bN
  rw [hg]
  have hne := nb_ne (x := x) (y := y) (u : Int) (q : Int)
  rw [hnb] at b6 hne
  rcases b5 with e | e <;> rcases b6 with e' | e' <;> omega
theorem gap_step {o g : Nat} (hv : OkM x y o) (hg : g < gN x y) (hb : bt o g = 1) : ∃ q, q < 4 ∧ stN x y o (aN x y g) q = (bN x y g : Int) := by
  obtain ⟨h1, q, hq, hn, hp⟩ := ends hv.1 hg
  obtain ⟨-, -, e1, e2⟩ := ends_lt hv.1 hg
  rw [e1] at hn hp
  rw [e2] at hn
  refine ⟨q, hq, ?_⟩
  have h0 : ¬ nbZ x y (aN x y g) q < 0 := by rw [hn]; omega
  have := (st_pos (o := (o : Int)) hv h0).2 (by rw [hp]; simpa using hb)
  unfold stN stZ at *
  split
  · exact hn
  · rename_i h; rw [if_neg h] at this; omega
theorem cn_gap {o g : Nat} (hv : OkM x y o) (hg : g < gN x y) (hb : bt o g = 1) : Cn x y o (aN x y g) (bN x y g) := by
  obtain ⟨q, hq, hs⟩ := gap_step hv hg hb
  exact ⟨1, .step .zero hq hs⟩
/-- What holds along each open gap holds along each walk. -/
theorem cn_ind {o : Nat} (hv : OkM x y o) {E : Nat → Nat → Prop} (hr : ∀ u, E u u) (hs : ∀ u v, E u v → E v u) (ht : ∀ u v t, E u v → E v t → E u t)
    (he : ∀ g, g < gN x y → bt o g = 1 → E (aN x y g) (bN x y g)) {u v : Nat} (h : Cn x y o u v) : E u v := by
  obtain ⟨n, h⟩ := h
  induction h with
  | zero => exact hr _
  | step h hq hst ih =>
    obtain ⟨g, hg, hb, ⟨rfl, rfl⟩ | ⟨rfl, rfl⟩⟩ := step_gap hv hst
    · exact ht _ _ _ ih (he g hg hb)
    · exact ht _ _ _ ih (hs _ _ (he g hg hb))
theorem cn_mono {o o' : Nat} (hv : OkM x y o) (hv' : OkM x y o') (h : ∀ g, g < gN x y → bt o g = 1 → bt o' g = 1) {u v : Nat} (hc : Cn x y o u v) : Cn x y o' u v :=
  cn_ind (E := Cn x y o') hv (cn_refl o') (fun _ _ => cn_symm) (fun _ _ _ => cn_trans) (fun g hg hb => cn_gap hv' hg (h g hg hb)) hc
/-- What a further passage connects. -/
theorem cn_add {o g : Nat} (hk : OkZ x y) (ho : o < 2 ^ gN x y) (hg : g < gN x y) (hb : bt o g = 0) {u v : Nat} :
    Cn x y (o + 2 ^ g) u v ↔ Cn x y o u v ∨ (Cn x y o u (aN x y g) ∧ Cn x y o (bN x y g) v) ∨ (Cn x y o u (bN x y g) ∧ Cn x y o (aN x y g) v) := by
  have hv := okm hk ho
  have hv' := okm hk (add_lt ho hg hb)
  have hm : ∀ {u v}, Cn x y o u v → Cn x y (o + 2 ^ g) u v := fun h => cn_mono hv hv' (fun j hj hj1 => by rw [bt_add hb j]; split; · rfl
                                                                                                          · exact hj1) h
  have hge : Cn x y (o + 2 ^ g) (aN x y g) (bN x y g) := cn_gap hv' hg (by rw [bt_add hb g, if_pos rfl])
  constructor
  · intro h
    refine cn_ind (E := fun u v => Cn x y o u v ∨ (Cn x y o u (aN x y g) ∧ Cn x y o (bN x y g) v) ∨ (Cn x y o u (bN x y g) ∧ Cn x y o (aN x y g) v)) hv' (fun u => .inl (cn_refl o u)) ?_ ?_ ?_ h
    · rintro u v (h | ⟨h1, h2⟩ | ⟨h1, h2⟩)
      · exact .inl (cn_symm h)
      · exact .inr (.inr ⟨cn_symm h2, cn_symm h1⟩)
      · exact .inr (.inl ⟨cn_symm h2, cn_symm h1⟩)
    · rintro u v t (h | ⟨h1, h2⟩ | ⟨h1, h2⟩) (k | ⟨k1, k2⟩ | ⟨k1, k2⟩)
      · exact .inl (cn_trans h k)
      · exact .inr (.inl ⟨cn_trans h k1, k2⟩)
      · exact .inr (.inr ⟨cn_trans h k1, k2⟩)
      · exact .inr (.inl ⟨h1, cn_trans h2 k⟩)
      · exact .inr (.inl ⟨h1, k2⟩)
      · exact .inl (cn_trans h1 k2)
      · exact .inr (.inr ⟨h1, cn_trans h2 k⟩)
      · exact .inl (cn_trans h1 k2)
      · exact .inr (.inr ⟨h1, k2⟩)
    · intro j hj hj1
      rw [bt_add hb j] at hj1
      by_cases e : j = g
      · subst e; exact .inr (.inl ⟨cn_refl _ _, cn_refl _ _⟩)
      · rw [if_neg e] at hj1; exact .inl (cn_gap hv hj hj1)
  · rintro (h | ⟨h1, h2⟩ | ⟨h1, h2⟩)
    · exact hm h
    · exact cn_trans (hm h1) (cn_trans hge (hm h2))
    · exact cn_trans (hm h1) (cn_trans (cn_symm hge) (hm h2))

/-! ### parts -/
theorem cn_iff {o u : Nat} (hu : u < cN x y) (v : Nat) : 0 ≤ dZ (stN x y o) (cN x y) u v ↔ Cn x y o u v := dZ_pos hu (@stN_lt x y o) v
theorem least_iff {o k : Nat} (hk : k < cN x y) : isLeast (stN x y o) (cN x y) k = true ↔ ∀ j, j < k → ¬ Cn x y o k j := by
  rw [isLeast_iff]
  refine ⟨fun h j hj hc => ?_, fun h j hj => ?_⟩
  · have := h j hj; have := (cn_iff hk j).2 hc; omega
  · have := h j hj; rw [← cn_iff hk j] at this; omega
/-- The number of parts. -/
def pt (x y : Int) (o : Nat) : Nat := cpN (stN x y o) (cN x y) (cN x y)
theorem pt_same {o o' : Nat} (h : ∀ u v, Cn x y o u v ↔ Cn x y o' u v) : pt x y o = pt x y o' := by
  unfold pt; rw [cp_cnt, cp_cnt]
  refine cnt_ext fun k hk => ?_
  rw [Bool.eq_iff_iff, least_iff hk, least_iff hk]
  exact forall_congr' fun j => forall_congr' fun _ => not_congr (h k j)
/-- The least cell of a part. -/
theorem least_of {o u : Nat} (hu : u < cN x y) : ∃ c, c ≤ u ∧ Cn x y o u c ∧ isLeast (stN x y o) (cN x y) c = true ∧ ∀ j, Cn x y o u j → c ≤ j := by
  have key : ∀ n, ∀ c, c ≤ n → c ≤ u → Cn x y o u c → ∃ c, c ≤ u ∧ Cn x y o u c ∧ isLeast (stN x y o) (cN x y) c = true ∧ ∀ j, Cn x y o u j → c ≤ j := by
    intro n
    induction n with
    | zero =>
      intro c hc hcu h
      obtain rfl : c = 0 := by omega
      exact ⟨0, hcu, h, (least_iff (by omega)).2 fun j hj => absurd hj (by omega), fun j _ => Nat.zero_le _⟩
    | succ n ih =>
      intro c hc hcu h
      by_cases hl : ∃ j, j < c ∧ Cn x y o u j
      · obtain ⟨j, hj, hj'⟩ := hl
        exact ih j (by omega) (by omega) hj'
      · refine ⟨c, hcu, h, (least_iff (by omega)).2 fun j hj hc' => hl ⟨j, hj, cn_trans h hc'⟩, fun j hj => ?_⟩
        rcases Nat.lt_or_ge j c with h' | h'
        · exact absurd ⟨j, h', hj⟩ hl
        · exact h'
  exact key u u (Nat.le_refl _) (Nat.le_refl _) (cn_refl o u)
theorem pt_add {o g : Nat} (hk : OkZ x y) (ho : o < 2 ^ gN x y) (hg : g < gN x y) (hb : bt o g = 0) :
    (Cn x y o (aN x y g) (bN x y g) → pt x y (o + 2 ^ g) = pt x y o) ∧ (¬ Cn x y o (aN x y g) (bN x y g) → pt x y o = pt x y (o + 2 ^ g) + 1) := by
  have ha := @cn_add x y o g hk ho hg hb
  refine ⟨fun h => pt_same fun u v => ?_, fun h => ?_⟩
  · rw [ha]
    refine ⟨?_, .inl⟩
    rintro (h1 | ⟨h1, h2⟩ | ⟨h1, h2⟩)
    · exact h1
    · exact cn_trans h1 (cn_trans h h2)
    · exact cn_trans h1 (cn_trans (cn_symm h) h2)
  · obtain ⟨hab, hbN, -, -⟩ := ends_lt hk hg
    obtain ⟨la, la1, la2, la3, la4⟩ := @least_of x y o (aN x y g) (by omega)
    obtain ⟨lb, lb1, lb2, lb3, lb4⟩ := @least_of x y o (bN x y g) hbN
    have hne : la ≠ lb := fun e => h (cn_trans la2 (by rw [e]; exact cn_symm lb2))
    -- the greater one of the two least cells is least no more
    have key : ∀ c d p q : Nat, c < d → d < cN x y → (∀ u v, Cn x y (o + 2 ^ g) u v ↔ Cn x y o u v ∨ (Cn x y o u p ∧ Cn x y o q v) ∨ (Cn x y o u q ∧ Cn x y o p v)) → Cn x y o p c → Cn x y o q d → (∀ j, Cn x y o p j → c ≤ j) → (∀ j, Cn x y o q j → d ≤ j) →
        pt x y o = pt x y (o + 2 ^ g) + 1 := by
      intro c d p q hcd hd hR hpc hqd hc hd'
      unfold pt; rw [cp_cnt, cp_cnt]
      refine cnt_del (c := d) ?_ ?_ hd fun k hk hkd => ?_
      · exact (least_iff hd).2 fun j hj hc' => by have := hd' j (cn_trans hqd hc'); omega
      · rw [← Bool.not_eq_true, least_iff hd]
        exact fun hh => hh c hcd ((hR d c).2 (.inr (.inr ⟨cn_symm hqd, hpc⟩)))
      · rw [Bool.eq_iff_iff, least_iff hk, least_iff hk]
        refine ⟨fun hh j hj hc' => ?_, fun hh j hj hc' => hh j hj ((hR k j).2 (.inl hc'))⟩
        rcases (hR k j).1 hc' with h1 | ⟨h1, h2⟩ | ⟨h1, h2⟩
        · exact hh j hj h1
        · have e1 := hd' j h2
          have e2 := hc k (cn_symm h1)
          have e3 : ¬ c < k := fun e => hh c e (cn_trans h1 hpc)
          omega
        · have e1 := hd' k (cn_symm h1)
          have e2 : ¬ d < k := fun e => hh d e (cn_trans h1 hqd)
          omega
    rcases Nat.lt_or_ge la lb with hlt | hge
    · exact key la lb _ _ hlt (by omega) (fun u v => ha) la2 lb2 la4 lb4
    · refine key lb la (bN x y g) (aN x y g) (by omega) (by omega) (fun u v => ?_) lb2 la2 lb4 la4
      rw [ha]
      constructor
      · rintro (h1 | h1 | h1)
        · exact .inl h1
        · exact .inr (.inr h1)
        · exact .inr (.inl h1)
      · rintro (h1 | h1 | h1)
        · exact .inl h1
        · exact .inr (.inr h1)
        · exact .inr (.inl h1)
theorem pt_none (hk : OkZ x y) : pt x y 0 = cN x y := by
  unfold pt; rw [cp_cnt]
  refine cnt_all fun k hk' => (least_iff hk').2 fun j hj hc => ?_
  have h0 : OkM x y ((0 : Nat) : Int) := okm hk (Nat.pow_pos (by decide))
  have : k = j := cn_ind (E := fun u v => u = v) h0 (fun _ => rfl) (fun _ _ e => e.symm) (fun _ _ _ e e' => e.trans e') (fun g hg hb => by simp [bt] at hb) hc
  omega

/-! ### loops -/
/-- The number of loops. -/
def lp (x y : Int) (o : Nat) : Int := (pcN o (gN x y) : Int) - cN x y + pt x y o
theorem lp_none (hk : OkZ x y) : lp x y 0 = 0 := by
  have : ∀ k, pcN 0 k = 0 := fun k => by
    induction k with
    | zero => rfl
    | succ k ih => rw [pcN, ih]; simp
  unfold lp; rw [pt_none hk, this]; omega
theorem lp_add {o g : Nat} (hk : OkZ x y) (ho : o < 2 ^ gN x y) (hg : g < gN x y) (hb : bt o g = 0) :
    (Cn x y o (aN x y g) (bN x y g) → lp x y (o + 2 ^ g) = lp x y o + 1) ∧ (¬ Cn x y o (aN x y g) (bN x y g) → lp x y (o + 2 ^ g) = lp x y o) := by
  obtain ⟨h1, h2⟩ := pt_add hk ho hg hb
  have h3 := pc_add hb hg
  unfold lp
  refine ⟨fun h => ?_, fun h => ?_⟩
  · rw [h1 h, h3]; omega
  · have := h2 h; rw [h3]; omega
/-- The first k gaps' passages. -/
theorem lp_chain {o : Nat} (hk : OkZ x y) : ∀ k, k ≤ gN x y → 0 ≤ lp x y (o % 2 ^ k) ∧ ((∀ g, g < k → bt o g = 1 → ¬ Cn x y (o % 2 ^ g) (aN x y g) (bN x y g)) → lp x y (o % 2 ^ k) = 0) := by
  intro k
  induction k with
  | zero =>
    intro _
    rw [Nat.pow_zero, Nat.mod_one, lp_none hk]
    exact ⟨Int.le_refl _, fun _ => rfl⟩
  | succ k ih =>
    intro hkG
    obtain ⟨h1, h2⟩ := ih (by omega)
    have hlt : o % 2 ^ k < 2 ^ gN x y := Nat.lt_of_lt_of_le (Nat.mod_lt _ (Nat.pow_pos (by decide))) (Nat.pow_le_pow_right (by decide) (by omega))
    have h0 : bt (o % 2 ^ k) k = 0 := by rw [bt_mod, if_neg (by omega)]
    obtain ⟨a1, a2⟩ := lp_add hk hlt (show k < gN x y by omega) h0
    have hb := bt_le o k
    rw [mod_next]
    by_cases h : bt o k = 1
    · rw [h, Nat.mul_one]
      by_cases hc : Cn x y (o % 2 ^ k) (aN x y k) (bN x y k)
      · rw [a1 hc]
        exact ⟨by omega, fun hh => absurd hc (hh k (by omega) h)⟩
      · rw [a2 hc]
        exact ⟨h1, fun hh => h2 fun g hg => hh g (by omega)⟩
    · have : bt o k = 0 := by omega
      rw [this, Nat.mul_zero, Nat.add_zero]
      exact ⟨h1, fun hh => h2 fun g hg => hh g (by omega)⟩
theorem lp_pos {o : Nat} (hk : OkZ x y) (ho : o < 2 ^ gN x y) : 0 ≤ lp x y o := by
  have := (lp_chain (o := o) hk (gN x y) (Nat.le_refl _)).1
  rwa [Nat.mod_eq_of_lt ho] at this
/-- A passage is taken away. -/
theorem bt_take {n g : Nat} (h : bt n g = 1) : 2 ^ g ≤ n ∧ bt (n - 2 ^ g) g = 0 ∧ n - 2 ^ g + 2 ^ g = n := by
  have := set_le (n := n) (g := g) h
  exact ⟨this.1, this.2, by omega⟩
/-- All passages are bridges just if there is no loop. -/
theorem all_bridges {o : Nat} (hk : OkZ x y) (ho : o < 2 ^ gN x y) : (∀ g, g < gN x y → bt o g = 1 → ¬ Cn x y (o - 2 ^ g) (aN x y g) (bN x y g)) ↔ lp x y o = 0 := by
  constructor
  · intro h
    have := (lp_chain (o := o) hk (gN x y) (Nat.le_refl _)).2 fun g hg hb hc => by
      refine h g hg hb ?_
      obtain ⟨t1, t2, t3⟩ := bt_take hb
      have hlt : o % 2 ^ g < 2 ^ gN x y := Nat.lt_of_lt_of_le (Nat.mod_lt _ (Nat.pow_pos (by decide))) (Nat.pow_le_pow_right (by decide) (by omega))
      refine cn_mono (okm hk hlt) (okm hk (Nat.lt_of_le_of_lt (Nat.sub_le _ _) ho)) (fun j hj hj1 => ?_) hc
      rw [bt_mod] at hj1
      split at hj1
      · rename_i hjg
        have := bt_add t2 j
        rw [t3, if_neg (by omega)] at this
        omega
      · omega
    rwa [Nat.mod_eq_of_lt ho] at this
  · intro h g hg hb hc
    obtain ⟨t1, t2, t3⟩ := bt_take hb
    have hlt : o - 2 ^ g < 2 ^ gN x y := Nat.lt_of_le_of_lt (Nat.sub_le _ _) ho
    have h1 := (lp_add hk hlt hg t2).1 hc
    rw [t3] at h1
    have := lp_pos hk hlt
    omega

/-! ### all cells in one part -/
theorem down_fin : ∀ w h : Fin 4, ∀ k : Fin 16, (k : Nat) = 0 ∨ (((w : Nat) + 1) * ((h : Nat) + 1) ≤ (k : Nat)) ∨ ((List.range 4).any fun q => decide (0 ≤ nbZ ((w : Nat) + 1) ((h : Nat) + 1) (k : Nat) (q : Nat) ∧ nbZ ((w : Nat) + 1) ((h : Nat) + 1) (k : Nat) (q : Nat) < (k : Nat))) = true := by decide +kernel
theorem down {k : Nat} (hk : OkZ x y) (hc : k < cN x y) (h0 : 0 < k) : ∃ q v : Nat, nbZ x y k q = (v : Int) ∧ v < k := by
  obtain ⟨h1, h2, h3, h4⟩ := hk
  have hm := (mul_bd x y h1 h2 h3 h4).1
  unfold cN at hc
  have := down_fin ⟨(x - 1).toNat, by omega⟩ ⟨(y - 1).toNat, by omega⟩ ⟨k, by omega⟩
  simp only [show (((x - 1).toNat : Nat) : Int) + 1 = x by omega, show (((y - 1).toNat : Nat) : Int) + 1 = y by omega] at this
  have hx : ((x - 1).toNat + 1) * ((y - 1).toNat + 1) = (x * y).toNat := by
    have : (((x - 1).toNat + 1 : Nat) : Int) * (((y - 1).toNat + 1 : Nat) : Int) = x * y := by
      rw [show (((x - 1).toNat + 1 : Nat) : Int) = x by omega, show (((y - 1).toNat + 1 : Nat) : Int) = y by omega]
    rw [← this]; norm_cast
  rcases this with h | h | h
  · omega
  · rw [hx] at h; omega
  · rw [List.any_eq_true] at h
    obtain ⟨q, _, hq⟩ := h
    have hq := of_decide_eq_true hq
    exact ⟨q, (nbZ x y k q).toNat, by omega, by omega⟩
/-- Where the ends of each gap are connected, all cells are in one part. -/
theorem one_of_gaps {o : Nat} (hk : OkZ x y) (h : ∀ g, g < gN x y → Cn x y o (aN x y g) (bN x y g)) : pt x y o = 1 := by
  have hz : ∀ n k, k ≤ n → k < cN x y → Cn x y o k 0 := by
    intro n
    induction n with
    | zero => intro k hk' _; obtain rfl : k = 0 := by omega
              exact cn_refl _ _
    | succ n ih =>
      intro k hk' hc
      rcases Nat.eq_zero_or_pos k with e | e
      · subst e; exact cn_refl _ _
      · obtain ⟨q, v, hnb, hvk⟩ := down hk hc e
        have hn : ¬ nbZ x y k q < 0 := by omega
        obtain ⟨b1, b2, b3, b4, b5, b6⟩ := both x y k q hn
        have hlt := gp_lt x y k q hn
        have hg : ((gpZ x y k q).toNat : Int) = gpZ x y k q := by omega
        have hgl : (gpZ x y k q).toNat < gN x y := by unfold gN; omega
        have hcc := h _ hgl
        have he := (ends hk hgl).1
        rw [hg] at he
        have hne := nb_ne (x := x) (y := y) (k : Int) (q : Int)
        have hkv : Cn x y o k v := by
          unfold aN bN at hcc
          rw [hg] at hcc
          rw [hnb] at b6 hne
          rcases b5 with e1 | e1
          · have e2 : (ebZ x y (gpZ x y k q)).toNat = v := by rcases b6 with e' | e' <;> omega
            have e3 : (eaZ x y (gpZ x y k q)).toNat = k := by omega
            rw [e2, e3] at hcc; exact hcc
          · have e2 : (eaZ x y (gpZ x y k q)).toNat = v := by rcases b6 with e' | e' <;> omega
            have e3 : (ebZ x y (gpZ x y k q)).toNat = k := by omega
            rw [e2, e3] at hcc; exact cn_symm hcc
        exact cn_trans hkv (ih v (by omega) (by omega))
  have hp : 0 < cN x y := by
    obtain ⟨h1, h2, h3, h4⟩ := hk
    have := (mul_bd x y h1 h2 h3 h4).1
    unfold cN; omega
  unfold pt
  rw [cpN_one _ _ _ hp]
  intro k hk0 hkN
  rw [← Bool.not_eq_true, least_iff hkN]
  exact fun hh => hh 0 hk0 (hz k k (Nat.le_refl _) hkN)
end
end Go.Proofs.Ythakbjdkcdppjaa.forest
