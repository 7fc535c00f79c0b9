/- Growing and dividing, without the program: whatever is chosen, a perfect maze comes out. -/
import Derived.Test.YthakbjdkcdppjaaGrwP
import Derived.Test.YthakbjdkcdppjaaPopQ
namespace Go.Proofs.Ythakbjdkcdppjaa.grwQ
open gridP gridQ bitP mazeP mazeQ mazeM reachP reachM reachN reachD forest perfP wayP ersP popP popQ grwP
set_option linter.unusedVariables false

section
variable {x y : Int}
/-- One gap is set. -/
theorem sg_bits (hk : OkZ x y) {m g : Nat} (hm : m < 2 ^ gN x y) (hg : g < gN x y) (b : Bool) :
    ∃ m' : Nat, sgZ x y m g b = (m' : Int) ∧ m' < 2 ^ gN x y ∧ ∀ j, bt m' j = if j = g then (if b = true then 1 else 0) else bt m j := by
  have hv := okm hk hm
  have hgz : (g : Int) < gpsZ x y := by unfold gN at hg; omega
  have hs : sgB x y m g = true := decide_eq_true ⟨hv, by omega, hgz⟩
  unfold sgZ
  rw [if_pos hs, bitZ_bt (by omega) (by omega), Int.toNat_natCast, Int.toNat_natCast]
  by_cases hb : bt m g = 1
  · rw [hb, if_pos (by decide)]
    cases b
    · rw [if_neg (by decide)]
      obtain ⟨t1, t2, t3⟩ := bt_take hb
      refine ⟨m - 2 ^ g, by push_cast [t1]; omega, Nat.lt_of_le_of_lt (Nat.sub_le _ _) hm, fun j => ?_⟩
      have := bt_add t2 j
      rw [t3] at this
      by_cases e : j = g
      · subst e; rw [if_pos rfl]; simpa using t2
      · rw [if_neg e] at this ⊢; exact this.symm
    · rw [if_pos rfl]
      refine ⟨m, rfl, hm, fun j => ?_⟩
      by_cases e : j = g
      · subst e; rw [if_pos rfl]; simpa using hb
      · rw [if_neg e]
  · have h0 : bt m g = 0 := by have := bt_le m g; omega
    rw [h0, if_neg (by decide)]
    cases b
    · rw [if_neg (by decide)]
      refine ⟨m, rfl, hm, fun j => ?_⟩
      by_cases e : j = g
      · subst e; rw [if_pos rfl]; simpa using h0
      · rw [if_neg e]
    · rw [if_pos rfl]
      refine ⟨m + 2 ^ g, by simp, add_lt hm hg h0, fun j => ?_⟩
      rw [bt_add h0 j]
      by_cases e : j = g
      · rw [if_pos e, if_pos e]; rfl
      · rw [if_neg e, if_neg e]

/-! ### growing -/
def icB (I : List Bool) (c : Nat) : Bool := I.getD c false
theorem ic_set {I : List Bool} {a c : Nat} (ha : a < I.length) : icB (I.set a true) c = (icB I c || decide (c = a)) := by
  unfold icB
  rw [List.getD_eq_getElem?_getD, List.getD_eq_getElem?_getD, List.getElem?_set]
  by_cases e : a = c
  · subst e; simp [ha]
  · have e' : ¬ c = a := fun h => e h.symm
    rw [if_neg e]; simp [e']
theorem cr_is (I : List Bool) (g : Nat) : crB x y I g = true ↔ icB I (aN x y g) ≠ icB I (bN x y g) := by
  unfold crB icB; simp
/-- While cells are missing a gap leads out. -/
theorem cr_some (hk : OkZ x y) {I : List Bool} (h0 : icB I 0 = true) {c : Nat} (hc : c < cN x y) (hi : icB I c = false) : 0 < (crL x y I).length := by
  apply Classical.byContradiction
  intro hn
  have hl : crL x y I = [] := List.eq_nil_of_length_eq_zero (by omega)
  have hall : ∀ g, g < gN x y → icB I (aN x y g) = icB I (bN x y g) := fun g hg => by
    apply Classical.byContradiction
    intro h
    have : ((g : Nat) : Int) ∈ crL x y I := cr_mem.2 ⟨g, rfl, hg, (cr_is I g).2 h⟩
    rw [hl] at this; simp at this
  have hz : ∀ n k, k ≤ n → k < cN x y → icB I k = true := by
    intro n
    induction n with
    | zero => intro k hk' _; obtain rfl : k = 0 := by omega
              exact h0
    | succ n ih =>
      intro k hk' hc
      rcases Nat.eq_zero_or_pos k with e | e
      · subst e; exact h0
      · obtain ⟨q, v, hnb, hvk⟩ := down hk hc e
        have hv := ih v (by omega) (by omega)
        have hn : ¬ nbZ x y k q < 0 := by omega
        obtain ⟨b1, b2, b3, b4, b5, b6⟩ := both x y k q hn
        have hlt := gp_lt x y k q hn
        have hgl : (gpZ x y k q).toNat < gN x y := by unfold gN; omega
        have hcc := hall _ hgl
        have he := (ends_lt hk hgl).2.2
        rw [show (((gpZ x y k q).toNat : Nat) : Int) = gpZ x y k q by omega] at he
        have hne := nb_ne (x := x) (y := y) (k : Int) (q : Int)
        rw [hnb] at b6 hne
        rcases b5 with e1 | e1
        · have e2 : bN x y (gpZ x y k q).toNat = v := by rcases b6 with e' | e' <;> omega
          have e3 : aN x y (gpZ x y k q).toNat = k := by omega
          rw [e2, e3, hv] at hcc; exact hcc
        · have e2 : aN x y (gpZ x y k q).toNat = v := by rcases b6 with e' | e' <;> omega
          have e3 : bN x y (gpZ x y k q).toNat = k := by omega
          rw [e2, e3, hv] at hcc; exact hcc.symm
  rw [hz c c (Nat.le_refl _) hc] at hi
  cases hi
theorem cnt_none {p : Nat → Bool} : ∀ {n : Nat}, (∀ k, k < n → p k = false) → cnt p n = 0
  | 0, _ => rfl
  | n + 1, h => by unfold cnt; rw [cnt_none (n := n) fun k hk => h k (by omega), h n (by omega)]; rfl
theorem cnt_max (p : Nat → Bool) : ∀ n, cnt p n ≤ n
  | 0 => Nat.le_refl _
  | n + 1 => by have := cnt_max p n; unfold cnt; split <;> omega
theorem cnt_miss {p : Nat → Bool} : ∀ {n : Nat}, cnt p n < n → ∃ k, k < n ∧ p k = false
  | 0, h => absurd h (by omega)
  | n + 1, h => by
    cases hp : p n with
    | false => exact ⟨n, by omega, hp⟩
    | true =>
      unfold cnt at h
      rw [hp] at h
      obtain ⟨k, h1, h2⟩ := cnt_miss (p := p) (n := n) (by simp at h; omega)
      exact ⟨k, by omega, h2⟩
theorem cnt_full {p : Nat → Bool} {n k : Nat} (h : cnt p n = n) (hk : k < n) : p k = true := by
  cases hp : p k with
  | true => rfl
  | false =>
    exfalso
    have := cnt_del (p := fun c => p c || decide (c = k)) (q := p) (c := k) (by simp) hp hk (fun c _ hc => by simp [hc])
    have h2 := cnt_max (fun c => p c || decide (c = k)) n
    omega
/-- The maze behind k choices. -/
theorem gr_inv (hk : OkZ x y) (cs : List Int) : ∀ k, k + 1 ≤ cN x y → icB (grS x y cs k).1 0 = true ∧ cnt (icB (grS x y cs k).1) (cN x y) = k + 1 ∧
    ∃ m : Nat, (grS x y cs k).2 = (m : Int) ∧ m < 2 ^ gN x y ∧ pcN m (gN x y) ≤ k ∧ ∀ c, c < cN x y → icB (grS x y cs k).1 c = true → Cn x y m c 0
  | 0, h => by
    have hi : ∀ c, icB (grS x y cs 0).1 c = decide (c = 0) := fun c => by
      show icB (inS x y) c = _
      unfold inS
      rw [ic_set (by simp; omega)]
      have : icB (List.replicate (cN x y) false) c = false := by
        unfold icB
        rw [List.getD_eq_getElem?_getD, List.getElem?_replicate]
        split <;> rfl
      rw [this]; rfl
    refine ⟨by rw [hi]; rfl, ?_, 0, rfl, Nat.pow_pos (by decide), by rw [pc_zero]; exact Nat.le_refl _, fun c _ hc => ?_⟩
    · have h1 := cnt_del (p := icB (grS x y cs 0).1) (q := fun _ => false) (c := 0) (by rw [hi]; rfl) rfl (n := cN x y) (by omega) (fun c _ hc => by rw [hi]; simp [hc])
      rw [h1, cnt_none (fun _ _ => rfl)]
    · rw [hi] at hc
      rw [of_decide_eq_true hc]; exact cn_refl _ _
  | k + 1, h => by
    obtain ⟨h0, hc, m, hm, hlt, hpc, hcn⟩ := gr_inv hk cs k (by omega)
    have hlen := gr_len x y cs k
    show icB (enL x y (grS x y cs k).1 _) 0 = true ∧ cnt (icB (enL x y (grS x y cs k).1 _)) (cN x y) = k + 1 + 1 ∧ ∃ m : Nat, sgZ x y (grS x y cs k).2 _ true = _ ∧ m < _ ∧ _ ≤ _ ∧ ∀ c, _ → icB (enL x y (grS x y cs k).1 _) c = true → _
    generalize (grS x y cs k).1 = I at *
    generalize (grS x y cs k).2 = o at *
    subst hm
    obtain ⟨c0, h1, h2⟩ := cnt_miss (p := icB I) (n := cN x y) (by omega)
    have hpos := cr_some hk h0 h1 h2
    obtain ⟨g, e, hg, hcr⟩ := cr_mem.1 (List.mem_of_getElem? (pk_at (c := chZ cs k) hpos))
    rw [e]
    obtain ⟨l1, l2, l3, l4⟩ := ends_lt hk hg
    obtain ⟨m', e', hm', hpc', hb'⟩ := sg_open hk hlt hg
    have hcr' := (cr_is I g).1 hcr
    have hen : ∀ c, icB (enL x y I g) c = (icB I c || decide (c = aN x y g) || decide (c = bN x y g)) := fun c => by
      unfold enL
      rw [ic_set (by rw [List.length_set, hlen, show (ebZ x y (g : Int)).toNat = bN x y g from rfl]; exact l2), ic_set (by rw [hlen, show (eaZ x y (g : Int)).toNat = aN x y g from rfl]; omega)]
      rfl
    have hmono : ∀ {u v}, Cn x y m u v → Cn x y m' u v := fun hc => cn_mono (okm hk hlt) (okm hk hm') (fun j hj hj1 => (hb' j hj).2 (.inl hj1)) hc
    have hgc := cn_gap (okm hk hm') hg ((hb' g hg).2 (.inr rfl))
    have hone : ∃ u v, (u = aN x y g ∧ v = bN x y g ∨ u = bN x y g ∧ v = aN x y g) ∧ icB I u = true ∧ icB I v = false ∧ Cn x y m' v u ∧ u < cN x y ∧ v < cN x y := by
      cases ha : icB I (aN x y g) with
      | true => exact ⟨_, _, .inl ⟨rfl, rfl⟩, ha, by cases hb : icB I (bN x y g) with
          | false => rfl
          | true => exact absurd (ha.trans hb.symm) hcr', cn_symm hgc, by omega, l2⟩
      | false => exact ⟨_, _, .inr ⟨rfl, rfl⟩, by cases hb : icB I (bN x y g) with
          | true => rfl
          | false => exact absurd (ha.trans hb.symm) hcr', ha, hgc, l2, by omega⟩
    obtain ⟨u, v, huv, hu, hv, hc1, hun, hvn⟩ := hone
    have hen' : ∀ c, icB (enL x y I g) c = (icB I c || decide (c = v)) := fun c => by
      rw [hen]
      rcases huv with ⟨e1, e2⟩ | ⟨e1, e2⟩
      · rw [← e1, ← e2]
        by_cases hcu : c = u
        · subst hcu; rw [hu]; rfl
        · simp [hcu]
      · rw [← e1, ← e2]
        by_cases hcu : c = u
        · subst hcu; rw [hu]; rfl
        · simp [hcu]
    refine ⟨by rw [hen', h0]; rfl, ?_, m', e', hm', by omega, fun c hcN hc => ?_⟩
    · have := cnt_del (p := icB (enL x y I g)) (q := icB I) (c := v) (by rw [hen']; simp) hv hvn (fun c _ hc => by rw [hen']; simp [hc])
      omega
    · rw [hen', Bool.or_eq_true] at hc
      rcases hc with hc | hc
      · exact hmono (hcn c hcN hc)
      · rw [of_decide_eq_true hc]
        exact cn_trans hc1 (hmono (hcn u hun hu))
/-- As long as cells are missing a gap is picked. -/
theorem gr_pos (hk : OkZ x y) (cs : List Int) {j : Nat} (h : j + 1 < cN x y) : 0 < (crL x y (grS x y cs j).1).length ∧ ∃ g : Nat, pkZ (crL x y (grS x y cs j).1) (chZ cs j) = (g : Int) ∧ g < gN x y := by
  obtain ⟨h0, hc, -⟩ := gr_inv hk cs j (by omega)
  obtain ⟨c0, h1, h2⟩ := cnt_miss (p := icB (grS x y cs j).1) (n := cN x y) (by omega)
  have hpos := cr_some hk h0 h1 h2
  obtain ⟨g, e, hg, -⟩ := cr_mem.1 (List.mem_of_getElem? (pk_at (c := chZ cs j) hpos))
  exact ⟨hpos, g, e, hg⟩
/-- A maze with few passages in which all is joined is perfect. -/
theorem few_perfect (hk : OkZ x y) {m : Nat} (hm : m < 2 ^ gN x y) (hpc : pcN m (gN x y) + 1 ≤ cN x y) (hz : ∀ k : Nat, k < cN x y → Cn x y m k 0) : ipB x y m = true := by
  have hN := nn2 hk
  have hpt : pt x y m = 1 := by
    unfold pt
    rw [cpN_one _ _ _ (by omega)]
    intro k hk0 hkN
    rw [← Bool.not_eq_true, least_iff hkN]
    exact fun hh => hh 0 hk0 (hz k hkN)
  have hlp := lp_pos hk hm
  refine (ip_is' hk hm).2 ⟨?_, hpt⟩
  unfold lp at hlp ⊢
  rw [hpt] at hlp ⊢
  omega
theorem grown (hk : OkZ x y) (cs : List Int) : ipB x y (gmO x y cs) = true := by
  have hN := nn2 hk
  obtain ⟨h0, hc, m, hm, hlt, hpc, hcn⟩ := gr_inv hk cs (cN x y - 1) (by omega)
  unfold gmO
  rw [if_pos (show 1 ≤ x ∧ x ≤ 4 ∧ 1 ≤ y ∧ y ≤ 4 from hk), hm]
  exact few_perfect hk hlt (by omega) fun k hkN => hcn k hkN (cnt_full (by omega) hkN)

/-! ### rooms -/
/-- Joined within a room. -/
def RC (x y : Int) (m : Nat) (R : Nat → Bool) (u v : Nat) : Prop := ∀ E : Nat → Nat → Prop, (∀ u, E u u) → (∀ u v, E u v → E v u) → (∀ u v t, E u v → E v t → E u t) →
  (∀ g, g < gN x y → bt m g = 1 → R (aN x y g) = true → R (bN x y g) = true → E (aN x y g) (bN x y g)) → E u v
theorem rc_refl {m : Nat} {R : Nat → Bool} (u : Nat) : RC x y m R u u := fun E h1 _ _ _ => h1 u
theorem rc_symm {m : Nat} {R : Nat → Bool} {u v : Nat} (h : RC x y m R u v) : RC x y m R v u := fun E h1 h2 h3 h4 => h2 _ _ (h E h1 h2 h3 h4)
theorem rc_trans {m : Nat} {R : Nat → Bool} {u v t : Nat} (h : RC x y m R u v) (h' : RC x y m R v t) : RC x y m R u t := fun E h1 h2 h3 h4 => h3 _ _ _ (h E h1 h2 h3 h4) (h' E h1 h2 h3 h4)
theorem rc_gap {m : Nat} {R : Nat → Bool} {g : Nat} (hg : g < gN x y) (hb : bt m g = 1) (ha : R (aN x y g) = true) (hb' : R (bN x y g) = true) : RC x y m R (aN x y g) (bN x y g) := fun E _ _ _ h4 => h4 g hg hb ha hb'
theorem rc_mono {m m' : Nat} {R R' : Nat → Bool} {u v : Nat} (hR : ∀ c, R c = true → R' c = true) (hm : ∀ g, g < gN x y → R (aN x y g) = true → R (bN x y g) = true → bt m g = 1 → bt m' g = 1) (h : RC x y m R u v) : RC x y m' R' u v :=
  fun E h1 h2 h3 h4 => h E h1 h2 h3 fun g hg hb ha hb' => h4 g hg (hm g hg ha hb' hb) (hR _ ha) (hR _ hb')
/-- The passages within a room. -/
def rpB (x y : Int) (m : Nat) (R : Nat → Bool) (g : Nat) : Bool := decide (bt m g = 1) && (R (aN x y g) && R (bN x y g))
/-- A tree on a room of n cells. -/
def Tr (x y : Int) (m : Nat) (R : Nat → Bool) (n : Nat) : Prop := (∀ u v, R u = true → R v = true → RC x y m R u v) ∧ cnt (rpB x y m R) (gN x y) + 1 ≤ n
/-- All gaps within a room are open. -/
def Fu (x y : Int) (m : Nat) (R : Nat → Bool) : Prop := ∀ g, g < gN x y → R (aN x y g) = true → R (bN x y g) = true → bt m g = 1
/-- A room is divided: a tree on it, the same elsewhere. -/
def Dv (x y : Int) (R : Nat → Bool) (n : Nat) (m m' : Nat) : Prop := m' < 2 ^ gN x y ∧ Tr x y m' R n ∧ ∀ g, g < gN x y → ¬ (R (aN x y g) = true ∧ R (bN x y g) = true) → bt m' g = bt m g
theorem cnt_sub {p q r : Nat → Bool} {g0 : Nat} : ∀ {n : Nat}, (∀ g, g < n → p g = true → q g = true ∨ r g = true ∨ g = g0) → cnt p n ≤ cnt q n + cnt r n + (if g0 < n then 1 else 0)
  | 0, _ => by simp [cnt]
  | n + 1, h => by
    have h1 := cnt_sub (p := p) (q := q) (r := r) (g0 := g0) (n := n) fun g hg => h g (by omega)
    have h2 := h n (by omega)
    have he : (if g0 < n + 1 then 1 else 0 : Nat) = (if g0 < n then 1 else 0) + (if g0 = n then 1 else 0) := by
      by_cases e1 : g0 < n
      · rw [if_pos e1, if_pos (by omega), if_neg (by omega)]
      · by_cases e2 : g0 = n
        · rw [if_neg e1, if_pos (by omega), if_pos e2]
        · rw [if_neg e1, if_neg (by omega), if_neg e2]
    rw [he]
    have hk : (if p n = true then 1 else 0 : Nat) ≤ (if q n = true then 1 else 0) + (if r n = true then 1 else 0) + (if g0 = n then 1 else 0) := by
      by_cases hp : p n = true
      · rcases h2 hp with h2 | h2 | h2
        · rw [if_pos hp, if_pos h2]; omega
        · rw [if_pos hp, if_pos h2]; omega
        · rw [if_pos hp, if_pos h2.symm]; omega
      · rw [if_neg hp]; omega
    show cnt p n + (if p n = true then 1 else 0) ≤ (cnt q n + (if q n = true then 1 else 0)) + (cnt r n + (if r n = true then 1 else 0)) + _
    omega
/-- A gap leads from one part to the other one. -/
def Xg (x y : Int) (A B : Nat → Bool) (g : Nat) : Prop := (A (aN x y g) = true ∧ B (bN x y g) = true) ∨ (B (aN x y g) = true ∧ A (bN x y g) = true)
/-- A wall with one passage between two parts. -/
def Wa (x y : Int) (A B : Nat → Bool) (g0 m m1 : Nat) : Prop := (g0 < gN x y ∧ Xg x y A B g0) ∧ (∀ g, g < gN x y → Xg x y A B g → (bt m1 g = 1 ↔ g = g0)) ∧ ∀ g, g < gN x y → ¬ Xg x y A B g → bt m1 g = bt m g
theorem divide {R A B : Nat → Bool} {m m1 m2 m3 g0 na nb : Nat} (hR : ∀ c, R c = true ↔ A c = true ∨ B c = true) (hAB : ∀ c, A c = true → B c = true → False)
    (hf : Fu x y m R) (hw : Wa x y A B g0 m m1) (h2 : Fu x y m1 A → Dv x y A na m1 m2) (h3 : Fu x y m2 B → Dv x y B nb m2 m3) : Dv x y R (na + nb) m m3 := by
  obtain ⟨⟨hg0, hx0⟩, hw1, hw2⟩ := hw
  have hnxA : ∀ g, A (aN x y g) = true → A (bN x y g) = true → ¬ Xg x y A B g := fun g ha hb hx => by
    rcases hx with h | h
    · exact hAB _ hb h.2
    · exact hAB _ ha h.1
  have hnxB : ∀ g, B (aN x y g) = true → B (bN x y g) = true → ¬ Xg x y A B g := fun g ha hb hx => by
    rcases hx with h | h
    · exact hAB _ h.1 ha
    · exact hAB _ h.2 hb
  obtain ⟨d1, ⟨d2, d3⟩, d4⟩ := h2 fun g hg ha hb => by
    rw [hw2 g hg (hnxA g ha hb)]; exact hf g hg ((hR _).2 (.inl ha)) ((hR _).2 (.inl hb))
  obtain ⟨e1, ⟨e2, e3⟩, e4⟩ := h3 fun g hg ha hb => by
    rw [d4 g hg (fun h => hAB _ h.1 ha), hw2 g hg (hnxB g ha hb)]; exact hf g hg ((hR _).2 (.inr ha)) ((hR _).2 (.inr hb))
  have hA3 : ∀ g, g < gN x y → A (aN x y g) = true → A (bN x y g) = true → bt m3 g = bt m2 g := fun g hg ha hb => e4 g hg fun h => hAB _ ha h.1
  have hX3 : ∀ g, g < gN x y → Xg x y A B g → bt m3 g = bt m1 g := fun g hg hx => by
    rw [e4 g hg fun h => by rcases hx with h' | h'; exact hAB _ h'.1 h.1; exact hAB _ h'.2 h.2, d4 g hg fun h => by rcases hx with h' | h'; exact hAB _ h.2 h'.2; exact hAB _ h.1 h'.1]
  have hcA : ∀ u v, A u = true → A v = true → RC x y m3 R u v := fun u v hu hv => rc_mono (fun c h => (hR c).2 (.inl h)) (fun g hg ha hb h => by rw [hA3 g hg ha hb]; exact h) (d2 u v hu hv)
  have hcB : ∀ u v, B u = true → B v = true → RC x y m3 R u v := fun u v hu hv => rc_mono (fun c h => (hR c).2 (.inr h)) (fun g hg ha hb h => h) (e2 u v hu hv)
  have hopen : bt m3 g0 = 1 := by rw [hX3 g0 hg0 hx0]; exact (hw1 g0 hg0 hx0).2 rfl
  have hlink : ∃ p q, A p = true ∧ B q = true ∧ RC x y m3 R p q := by
    rcases hx0 with h | h
    · exact ⟨_, _, h.1, h.2, rc_gap hg0 hopen ((hR _).2 (.inl h.1)) ((hR _).2 (.inr h.2))⟩
    · exact ⟨_, _, h.2, h.1, rc_symm (rc_gap hg0 hopen ((hR _).2 (.inr h.1)) ((hR _).2 (.inl h.2)))⟩
  obtain ⟨p, q, hp, hq, hpq⟩ := hlink
  refine ⟨e1, ⟨fun u v hu hv => ?_, ?_⟩, fun g hg hn => ?_⟩
  · rcases (hR u).1 hu with hu | hu <;> rcases (hR v).1 hv with hv | hv
    · exact hcA u v hu hv
    · exact rc_trans (hcA u p hu hp) (rc_trans hpq (hcB q v hq hv))
    · exact rc_trans (hcB u q hu hq) (rc_trans (rc_symm hpq) (hcA p v hp hv))
    · exact hcB u v hu hv
  · have := cnt_sub (p := rpB x y m3 R) (q := rpB x y m2 A) (r := rpB x y m3 B) (g0 := g0) (n := gN x y) fun g hg hr => by
      unfold rpB at hr ⊢
      simp only [Bool.and_eq_true, decide_eq_true_iff] at hr ⊢
      obtain ⟨h1, h2, h3⟩ := hr
      rcases (hR _).1 h2 with ha | ha <;> rcases (hR _).1 h3 with hb | hb
      · left; exact ⟨by rw [← hA3 g hg ha hb]; exact h1, ha, hb⟩
      · right; right
        have hx : Xg x y A B g := .inl ⟨ha, hb⟩
        exact (hw1 g hg hx).1 (by rw [← hX3 g hg hx]; exact h1)
      · right; right
        have hx : Xg x y A B g := .inr ⟨ha, hb⟩
        exact (hw1 g hg hx).1 (by rw [← hX3 g hg hx]; exact h1)
      · right; left; exact ⟨h1, ha, hb⟩
    rw [if_pos hg0] at this
    omega
  · have hnA : ¬ (A (aN x y g) = true ∧ A (bN x y g) = true) := fun h => hn ⟨(hR _).2 (.inl h.1), (hR _).2 (.inl h.2)⟩
    have hnB : ¬ (B (aN x y g) = true ∧ B (bN x y g) = true) := fun h => hn ⟨(hR _).2 (.inr h.1), (hR _).2 (.inr h.2)⟩
    have hnX : ¬ Xg x y A B g := fun h => by
      rcases h with h | h
      · exact hn ⟨(hR _).2 (.inl h.1), (hR _).2 (.inr h.2)⟩
      · exact hn ⟨(hR _).2 (.inr h.1), (hR _).2 (.inl h.2)⟩
    rw [e4 g hg hnB, d4 g hg hnA, hw2 g hg hnX]
end
end Go.Proofs.Ythakbjdkcdppjaa.grwQ
