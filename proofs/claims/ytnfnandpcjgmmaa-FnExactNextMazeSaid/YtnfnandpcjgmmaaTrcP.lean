/- Perfect mazes with some gaps chosen and some banned are the trees of a graph of parts, without the program. -/
import Derived.Test.YtnfnandpcjgmmaaDets
import Derived.Test.YtnfnandpcjgmmaaHands
namespace Go.Proofs.Ytnfnandpcjgmmaa.trcP
open gridP gridQ bitP mazeP mazeQ reachP reachM reachN forest deadP detP trsP barP barQ handQ
set_option linter.unusedVariables false

/-! ### counting by pairs -/
theorem cnt_inj {m : Nat} (f : Nat → Nat) : ∀ {n : Nat} {p q : Nat → Bool}, (∀ o, o < n → p o = true → f o < m ∧ q (f o) = true) → (∀ o o', o < n → o' < n → p o = true → p o' = true → f o = f o' → o = o') → cnt p n ≤ cnt q m
  | 0, _, _, _, _ => Nat.zero_le _
  | n + 1, p, q, h, hi => by
    show cnt p n + (if p n = true then 1 else 0) ≤ _
    by_cases hp : p n = true
    · rw [if_pos hp]
      obtain ⟨h1, h2⟩ := h n (by omega) hp
      rw [cnt_split h1 h2]
      have := cnt_inj (m := m) f (n := n) (p := p) (q := fun k => q k && k != f n) (fun o ho hpo => by
        obtain ⟨h3, h4⟩ := h o (by omega) hpo
        refine ⟨h3, ?_⟩
        rw [h4, Bool.true_and, bne_iff_ne]
        intro e
        have := hi o n (by omega) (by omega) hpo hp e
        omega) (fun o o' ho ho' => hi o o' (by omega) (by omega))
      omega
    · rw [if_neg hp]
      exact cnt_inj (m := m) f (n := n) (p := p) (q := q) (fun o ho => h o (by omega)) (fun o o' ho ho' => hi o o' (by omega) (by omega))
theorem cnt_bij {p q : Nat → Bool} {n : Nat} (f h : Nat → Nat) (h1 : ∀ o, o < n → p o = true → f o < n ∧ q (f o) = true ∧ h (f o) = o) (h2 : ∀ o, o < n → q o = true → h o < n ∧ p (h o) = true ∧ f (h o) = o) : cnt p n = cnt q n := by
  have a := cnt_inj (m := n) f (n := n) (p := p) (q := q) (fun o ho hp => ⟨(h1 o ho hp).1, (h1 o ho hp).2.1⟩) (fun o o' ho ho' hp hp' e => by rw [← (h1 o ho hp).2.2, ← (h1 o' ho' hp').2.2, e])
  have b := cnt_inj (m := n) h (n := n) (p := q) (q := p) (fun o ho hp => ⟨(h2 o ho hp).1, (h2 o ho hp).2.1⟩) (fun o o' ho ho' hp hp' e => by rw [← (h2 o ho hp).2.2, ← (h2 o' ho' hp').2.2, e])
  omega
/-! ### sets together -/
theorem bt_or (o c g : Nat) : bt (o ||| c) g = if bt o g = 1 ∨ bt c g = 1 then 1 else 0 := by
  have h := bt_test (o ||| c) g
  rw [Nat.testBit_or, bt_test, bt_test] at h
  have := bt_le (o ||| c) g
  by_cases h1 : bt o g = 1 ∨ bt c g = 1
  · rw [if_pos h1]
    have : (decide (bt o g = 1) || decide (bt c g = 1)) = true := by rcases h1 with h1 | h1 <;> simp [h1]
    rw [this] at h
    exact of_decide_eq_true h.symm
  · rw [if_neg h1]
    have e : (decide (bt o g = 1) || decide (bt c g = 1)) = false := by
      rw [decide_eq_false (fun h => h1 (.inl h)), decide_eq_false (fun h => h1 (.inr h))]; rfl
    rw [e] at h
    have := of_decide_eq_false h.symm
    omega
theorem pc_or {o c : Nat} : ∀ {G : Nat}, (∀ g, g < G → bt o g = 1 → bt c g = 0) → pcN (o ||| c) G = pcN o G + pcN c G
  | 0, _ => rfl
  | G + 1, h => by
    show pcN (o ||| c) G + bt (o ||| c) G = pcN o G + bt o G + (pcN c G + bt c G)
    rw [pc_or (G := G) (fun g hg => h g (by omega)), bt_or]
    have h1 := h G (by omega)
    have h2 := bt_le o G
    have h3 := bt_le c G
    split
    · rename_i h4
      rcases h4 with h4 | h4
      · have := h1 h4; omega
      · have : bt o G ≠ 1 := fun e => by have := h1 e; omega
        omega
    · rename_i h4
      have : bt o G ≠ 1 := fun e => h4 (.inl e)
      have : bt c G ≠ 1 := fun e => h4 (.inr e)
      omega

section
variable {x y : Int}
/-- The parts into which the chosen gaps join the cells. -/
def Parts (x y : Int) (c n : Nat) (κ : Nat → Nat) : Prop := (∀ a, a < cN x y → κ a < n) ∧ (∀ a b, a < cN x y → b < cN x y → (κ a = κ b ↔ Cn x y c a b)) ∧ (∀ t, t < n → ∃ a, a < cN x y ∧ κ a = t) ∧ pcN c (gN x y) + n = cN x y
theorem parts_zero (hk : OkZ x y) : Parts x y 0 (cN x y) id := by
  refine ⟨fun a h => h, fun a b _ _ => ?_, fun t h => ⟨t, h, rfl⟩, ?_⟩
  · have h0 : OkM x y ((0 : Nat) : Int) := okm hk (Nat.pow_pos (by decide))
    refine ⟨fun e => by rw [show a = b from e]; exact cn_refl 0 b, fun hc => cn_ind (E := fun u v => u = v) h0 (fun _ => rfl) (fun _ _ e => e.symm) (fun _ _ _ e e' => e.trans e') (fun g hg hb => by simp [bt] at hb) hc⟩
  · have hz : ∀ k, pcN 0 k = 0 := fun k => by
      induction k with
      | zero => rfl
      | succ k ih => rw [pcN, ih]; simp
    rw [hz]; omega
/-- The trees between the parts are the perfect mazes. -/
theorem tr_iff {c n : Nat} {κ : Nat → Nat} {E : Nat → Bool} {I : List Nat} {r o : Nat} (hk : OkZ x y) (hc : c < 2 ^ gN x y) (hκ : Parts x y c n κ) (hr : r < n) (hI : ∀ t, t < n → (t ∈ I ↔ t ≠ r)) (hIl : I.length + 1 = n) (hIn : ∀ t ∈ I, t < n) (ho : o < 2 ^ gN x y) (hd : ∀ g, g < gN x y → bt o g = 1 → bt c g = 0) :
    IsTr (gN x y) (fun g => κ (aN x y g)) (fun g => κ (bN x y g)) E I o ↔ (∀ g, g < gN x y → bt o g = 1 → E g = true) ∧ lp x y (o ||| c) = 0 ∧ pt x y (o ||| c) = 1 := by
  obtain ⟨k1, k2, k3, k4⟩ := hκ
  have hs : o ||| c < 2 ^ gN x y := Nat.or_lt_two_pow ho hc
  have hv := okm hk hs
  have hvc := okm hk hc
  have hpc := pc_or hd
  obtain ⟨r0, hr0, hr0k⟩ := k3 r hr
  have hmono : ∀ {a b}, Cn x y c a b → Cn x y (o ||| c) a b := fun h => cn_mono hvc hv (fun g _ hb => by rw [bt_or, if_pos (.inr hb)]) h
  unfold IsTr
  constructor
  · rintro ⟨h1, h2, h3⟩
    have key : ∀ t, Rc (gN x y) (fun g => κ (aN x y g)) (fun g => κ (bN x y g)) (fun g => bt o g = 1) I t → ∀ a, a < cN x y → κ a = t → Cn x y (o ||| c) a r0 := by
      intro t ht
      induction ht with
      | out w hw =>
        intro a ha e
        have : w = r := Classical.byContradiction fun hne => hw ((hI w (e ▸ k1 a ha)).2 hne)
        exact hmono ((k2 a r0 ha hr0).1 (by rw [e, this, hr0k]))
      | left g hg hb _ ih =>
        intro a ha e
        obtain ⟨e1, e2, -, -⟩ := ends_lt hk hg
        have := ih (aN x y g) (by omega) rfl
        exact cn_trans (hmono ((k2 a _ ha e2).1 e)) (cn_trans (cn_symm (cn_gap hv hg (by rw [bt_or, if_pos (.inl hb)]))) this)
      | right g hg hb _ ih =>
        intro a ha e
        obtain ⟨e1, e2, -, -⟩ := ends_lt hk hg
        have := ih (bN x y g) e2 rfl
        exact cn_trans (hmono ((k2 a _ ha (by omega)).1 e)) (cn_trans (cn_gap hv hg (by rw [bt_or, if_pos (.inl hb)])) this)
    have hall : ∀ a, a < cN x y → Cn x y (o ||| c) a r0 := fun a ha => by
      refine key (κ a) ?_ a ha rfl
      by_cases he : κ a = r
      · exact .out _ (fun hm => (hI _ (k1 a ha)).1 hm he)
      · exact h3 _ ((hI _ (k1 a ha)).2 he)
    have hpt : pt x y (o ||| c) = 1 := one_of_gaps hk fun g hg => by
      obtain ⟨e1, e2, -, -⟩ := ends_lt hk hg
      exact cn_trans (hall _ (by omega)) (cn_symm (hall _ e2))
    refine ⟨h1, ?_, hpt⟩
    unfold lp
    rw [hpt, hpc]; omega
  · rintro ⟨h1, h2, h3⟩
    refine ⟨h1, ?_, fun t ht => ?_⟩
    · unfold lp at h2
      rw [h3, hpc] at h2; omega
    · obtain ⟨a, ha, rfl⟩ := k3 t (hIn t ht)
      have hcn := perf_cn h3 ha hr0
      have : Rc (gN x y) (fun g => κ (aN x y g)) (fun g => κ (bN x y g)) (fun g => bt o g = 1) I (κ a) ↔ Rc (gN x y) (fun g => κ (aN x y g)) (fun g => κ (bN x y g)) (fun g => bt o g = 1) I (κ r0) := by
        refine cn_ind (E := fun a b => (Rc (gN x y) (fun g => κ (aN x y g)) (fun g => κ (bN x y g)) (fun g => bt o g = 1) I (κ a) ↔ Rc (gN x y) (fun g => κ (aN x y g)) (fun g => κ (bN x y g)) (fun g => bt o g = 1) I (κ b))) hv (fun _ => Iff.rfl) (fun _ _ h => h.symm) (fun _ _ _ h h' => h.trans h') (fun g hg hb => ?_) hcn
        obtain ⟨e1, e2, -, -⟩ := ends_lt hk hg
        rw [bt_or] at hb
        by_cases hbo : bt o g = 1
        · exact ⟨fun h => .left g hg hbo h, fun h => .right g hg hbo h⟩
        · have hbc : bt c g = 1 := by
            apply Classical.byContradiction; intro hn
            rw [if_neg (fun h => h.elim hbo hn)] at hb; omega
          rw [(k2 _ _ (by omega) e2).2 (cn_gap hvc hg hbc)]
      refine this.2 (.out _ ?_)
      rw [hr0k]
      exact fun hm => (hI r hr).1 hm rfl
/-- How many perfect mazes have the chosen gaps and none of the banned ones. -/
def tcB (x y : Int) (c b o : Nat) : Bool := decide (lp x y o = 0 ∧ pt x y o = 1 ∧ ∀ g, g < gN x y → (bt c g = 1 → bt o g = 1) ∧ (bt b g = 1 → bt o g = 0))
def tcN (x y : Int) (c b : Nat) : Nat := cnt (tcB x y c b) (2 ^ gN x y)
/-- THEY ARE A MINOR. -/
theorem tc_minor {c b n : Nat} {κ : Nat → Nat} {E : Nat → Bool} {I : List Nat} {r : Nat} (hk : OkZ x y) (hc : c < 2 ^ gN x y) (hcb : ∀ g, g < gN x y → bt c g = 1 → bt b g = 0) (hE : ∀ g, g < gN x y → (E g = true ↔ bt c g = 0 ∧ bt b g = 0)) (hκ : Parts x y c n κ) (hr : r < n) (hnd : I.Nodup) (hI : ∀ t, t < n → (t ∈ I ↔ t ≠ r)) (hIl : I.length + 1 = n) (hIn : ∀ t ∈ I, t < n) :
    (tcN x y c b : Int) = dm (lap (gN x y) (fun g => κ (aN x y g)) (fun g => κ (bN x y g)) E) I := by
  obtain ⟨p, hp, he⟩ := minor_cnt (G := gN x y) (u := fun g => κ (aN x y g)) (v := fun g => κ (bN x y g)) E hnd
  rw [← he]
  congr 1
  have hsub : ∀ o, (∀ g, g < gN x y → bt o g = 1 → E g = true) → ∀ g, g < gN x y → bt o g = 1 → bt c g = 0 := fun o h g hg hb => ((hE g hg).1 (h g hg hb)).1
  -- the other set, without the chosen ones
  have hx : ∀ o g, bt (o ^^^ c) g = if bt o g = bt c g then 0 else 1 := fun o g => by
    have h := bt_test (o ^^^ c) g
    rw [Nat.testBit_xor, bt_test, bt_test] at h
    have h1 := bt_le o g; have h2 := bt_le c g; have h3 := bt_le (o ^^^ c) g
    by_cases e : bt o g = bt c g
    · rw [if_pos e]
      rw [e] at h
      have : (decide (bt c g = 1) ^^ decide (bt c g = 1)) = false := by simp
      rw [this] at h
      have := of_decide_eq_false h.symm
      omega
    · rw [if_neg e]
      have : (decide (bt o g = 1) ^^ decide (bt c g = 1)) = true := by
        by_cases h4 : bt o g = 1
        · have : bt c g ≠ 1 := fun h5 => e (h4.trans h5.symm)
          simp [h4, this]
        · have : bt c g = 1 := by omega
          simp [h4, this]
      rw [this] at h
      exact of_decide_eq_true h.symm
  refine cnt_bij (fun o => o ^^^ c) (fun o => o ||| c) (fun o ho ht => ?_) (fun o ho ht => ?_)
  · obtain ⟨t1, t2, t3⟩ := of_decide_eq_true ht
    have hxo : (o ^^^ c) ||| c = o := by
      apply Nat.eq_of_testBit_eq; intro g
      rw [bt_test, bt_test, bt_or, hx]
      have h1 := bt_le o g; have h2 := bt_le c g
      by_cases hg : g < gN x y
      · have := (t3 g hg).1
        by_cases h3 : bt c g = 1
        · rw [if_pos (.inr h3), this h3]
        · have h4 : bt c g = 0 := by omega
          by_cases h5 : bt o g = 1
          · simp [h4, h5]
          · have h6 : bt o g = 0 := by omega
            simp [h4, h6]
      · rw [bt_lt ho (by omega), bt_lt hc (by omega)]; simp
    have hlt : o ^^^ c < 2 ^ gN x y := Nat.xor_lt_two_pow ho hc
    refine ⟨hlt, ?_, hxo⟩
    rw [hp _ hlt]
    have hin : ∀ g, g < gN x y → bt (o ^^^ c) g = 1 → E g = true := fun g hg hb => by
      rw [hx] at hb
      have h1 := t3 g hg
      have h2 := bt_le c g; have h3 := bt_le b g; have h4 := bt_le o g
      rw [hE g hg]
      by_cases h5 : bt c g = 1
      · rw [if_pos (by rw [h1.1 h5, h5])] at hb; omega
      · refine ⟨by omega, ?_⟩
        apply Classical.byContradiction; intro h6
        have h7 := h1.2 (by omega)
        rw [if_pos (by omega)] at hb; omega
    exact (tr_iff hk hc hκ hr hI hIl hIn hlt (hsub _ hin)).2 ⟨hin, by rw [hxo]; exact t1, by rw [hxo]; exact t2⟩
  · have ht := (hp o ho).1 ht
    have hd := hsub o ht.1
    have ht2 := (tr_iff hk hc hκ hr hI hIl hIn ho hd).1 ht
    refine ⟨Nat.or_lt_two_pow ho hc, decide_eq_true ⟨ht2.2.1, ht2.2.2, fun g hg => ⟨fun h => by rw [bt_or, if_pos (.inr h)], fun h => ?_⟩⟩, ?_⟩
    · rw [bt_or, if_neg]
      rintro (h1 | h1)
      · have := ((hE g hg).1 (ht.1 g hg h1)).2; omega
      · have := hcb g hg h1; omega
    · apply Nat.eq_of_testBit_eq; intro g
      rw [bt_test, bt_test, hx, bt_or]
      have h1 := bt_le o g; have h2 := bt_le c g
      by_cases hg : g < gN x y
      · have := hd g hg
        by_cases h3 : bt o g = 1
        · simp [h3, this h3]
        · have h4 : bt o g = 0 := by omega
          by_cases h5 : bt c g = 1
          · simp [h4, h5]
          · have h6 : bt c g = 0 := by omega
            simp [h4, h6]
      · rw [bt_lt ho (by omega), bt_lt hc (by omega)]; simp
end
end Go.Proofs.Ytnfnandpcjgmmaa.trcP
