/- Walls of a maze, without the program: a maze has as many parts of walls as it has loops, and one. -/
import Derived.Test.YtnfnandpcjgmmaaForest
import Derived.Test.YtnfnandpcjgmmaaPerfP

namespace Go.Proofs.Ytnfnandpcjgmmaa.walP
open gridP gridQ bitP mazeP mazeQ reachP reachM reachN forest
set_option linter.unusedVariables false

/-! ### how many different labels there are -/
def frB (L : Nat → Nat) (k : Nat) : Bool := (List.range k).all fun i => L i != L k
theorem fr_iff (L : Nat → Nat) (k : Nat) : frB L k = true ↔ ∀ i, i < k → L i ≠ L k := by
  unfold frB
  rw [List.all_eq_true]
  exact ⟨fun h i hi => by simpa using h i (List.mem_range.2 hi), fun h i hi => by simpa using h i (List.mem_range.1 hi)⟩
/-- How many different labels the first n places have. -/
def nD (L : Nat → Nat) (n : Nat) : Nat := cnt (frB L) n
theorem nd_same {L L' : Nat → Nat} {n : Nat} (h : ∀ i j, L i = L j ↔ L' i = L' j) : nD L n = nD L' n := by
  unfold nD
  refine cnt_ext fun k _ => ?_
  rw [Bool.eq_iff_iff, fr_iff, fr_iff]
  exact forall_congr' fun i => forall_congr' fun _ => not_congr (h i k)
theorem nd_pos (L : Nat → Nat) {n : Nat} (h : 0 < n) : 1 ≤ nD L n := by
  unfold nD
  induction n with
  | zero => omega
  | succ n ih =>
    unfold cnt
    rcases Nat.eq_zero_or_pos n with e | e
    · subst e
      have : frB L 0 = true := (fr_iff L 0).2 fun i hi => absurd hi (by omega)
      rw [this]; simp [cnt]
    · have := ih e; omega
theorem nd_key {L L' : Nat → Nat} {n c d : Nat} (hcd : c < d) (hd : d < n) (hne : L c ≠ L d) (hc : ∀ j, L j = L c → c ≤ j) (hd' : ∀ j, L j = L d → d ≤ j)
    (hR : ∀ i j, L' i = L' j ↔ L i = L j ∨ (L i = L c ∧ L j = L d) ∨ (L i = L d ∧ L j = L c)) : nD L n = nD L' n + 1 := by
  unfold nD
  refine cnt_del (c := d) ?_ ?_ hd fun k hk hkd => ?_
  · exact (fr_iff L d).2 fun i hi e => by have := hd' i e; omega
  · rw [← Bool.not_eq_true, fr_iff]
    exact fun hh => hh c hcd ((hR c d).2 (.inr (.inl ⟨rfl, rfl⟩)))
  · rw [Bool.eq_iff_iff, fr_iff, fr_iff]
    refine ⟨fun hh i hi e => ?_, fun hh i hi e => hh i hi ((hR i k).2 (.inl e))⟩
    rcases (hR i k).1 e with h | ⟨h1, h2⟩ | ⟨h1, h2⟩
    · exact hh i hi h
    · have := hd' k h2
      exact hh d (by omega) h2.symm
    · have e1 := hd' i h1
      have e2 := hc k h2
      exact hh c (by omega) h2.symm
theorem least_label (L : Nat → Nat) (a : Nat) : ∃ c, c ≤ a ∧ L c = L a ∧ ∀ j, L j = L c → c ≤ j := by
  have key : ∀ n, ∀ c, c ≤ n → c ≤ a → L c = L a → ∃ c, c ≤ a ∧ L c = L a ∧ ∀ j, L j = L c → c ≤ j := by
    intro n
    induction n with
    | zero => intro c hc h1 h2; exact ⟨c, h1, h2, fun j _ => by omega⟩
    | succ n ih =>
      intro c hc h1 h2
      by_cases hl : ∃ j, j < c ∧ L j = L c
      · obtain ⟨j, hj, e⟩ := hl
        exact ih j (by omega) (by omega) (e.trans h2)
      · refine ⟨c, h1, h2, fun j hj => ?_⟩
        rcases Nat.lt_or_ge j c with h | h
        · exact absurd ⟨j, h, hj⟩ hl
        · exact h
  exact key a a (Nat.le_refl _) (Nat.le_refl _) rfl
/-- Two labels become one. -/
def mgN (L : Nat → Nat) (a b : Nat) : Nat → Nat := fun c => if L c = L b then L a else L c
theorem nd_merge {L : Nat → Nat} {n a b : Nat} (ha : a < n) (hb : b < n) : (L a = L b → nD (mgN L a b) n = nD L n) ∧ (L a ≠ L b → nD L n = nD (mgN L a b) n + 1) := by
  refine ⟨fun h => ?_, fun h => ?_⟩
  · have : mgN L a b = L := by
      funext c; unfold mgN; split
      · rename_i e; rw [e, h]
      · rfl
    rw [this]
  · obtain ⟨c, c1, c2, c3⟩ := least_label L a
    obtain ⟨d, d1, d2, d3⟩ := least_label L b
    have hR : ∀ i j, mgN L a b i = mgN L a b j ↔ L i = L j ∨ (L i = L a ∧ L j = L b) ∨ (L i = L b ∧ L j = L a) := by
      intro i j
      unfold mgN
      split <;> split <;> rename_i e1 e2
      · exact ⟨fun _ => .inl (e1.trans e2.symm), fun _ => rfl⟩
      · refine ⟨fun e => .inr (.inr ⟨e1, e.symm⟩), ?_⟩
        rintro (e | ⟨e, e'⟩ | ⟨e, e'⟩)
        · exact absurd (e.symm.trans e1) e2
        · exact absurd e' e2
        · exact e'.symm
      · refine ⟨fun e => .inr (.inl ⟨e, e2⟩), ?_⟩
        rintro (e | ⟨e, e'⟩ | ⟨e, e'⟩)
        · exact absurd (e.trans e2) e1
        · exact e
        · exact absurd e e1
      · refine ⟨.inl, ?_⟩
        rintro (e | ⟨e, e'⟩ | ⟨e, e'⟩)
        · exact e
        · exact absurd e' e2
        · exact absurd e e1
    have hne : L c ≠ L d := by rw [c2, d2]; exact h
    rcases Nat.lt_trichotomy c d with hlt | he | hgt
    · exact nd_key hlt (by omega) hne c3 d3 (by rw [c2, d2]; exact hR)
    · exact absurd (by rw [he]) hne
    · refine nd_key hgt (by omega) (fun e => hne e.symm) d3 c3 (fun i j => ?_)
      rw [c2, d2, hR]
      constructor
      · rintro (e | e | e)
        · exact .inl e
        · exact .inr (.inr e)
        · exact .inr (.inl e)
      · rintro (e | e | e)
        · exact .inl e
        · exact .inr (.inr e)
        · exact .inr (.inl e)

/-- The labels behind the first k pieces of a kind. -/
def lbN (S : Nat → Bool) (A B : Nat → Nat) (L : Nat → Nat) : Nat → Nat → Nat
  | 0 => L
  | k + 1 => if S k = true then mgN (lbN S A B L k) (A k) (B k) else lbN S A B L k
theorem lb_inv {S : Nat → Bool} {A B L : Nat → Nat} {f : Nat → Bool} (h0 : ∀ i j, L i = L j → f i = f j) : ∀ k, (∀ g, g < k → S g = true → f (A g) = f (B g)) → ∀ i j, lbN S A B L k i = lbN S A B L k j → f i = f j
  | 0, _, i, j, h => h0 i j h
  | k + 1, hs, i, j, h => by
    have ih := lb_inv h0 k (fun g hg => hs g (by omega))
    unfold lbN at h
    split at h
    · rename_i hk
      have hab := hs k (by omega) hk
      unfold mgN at h
      split at h <;> split at h <;> rename_i e1 e2
      · exact ih i j (e1.trans e2.symm)
      · rw [ih i _ e1, ← hab]; exact ih _ j h
      · rw [ih j _ e2, ← hab]; exact ih i _ h
      · exact ih i j h
    · exact ih i j h

section
variable {x y : Int}
/-- The corners of a gap. -/
def c1Z (x y g : Int) : Int := if eaZ x y g < 0 then -1 else ebZ x y g / x * (x + 1) + ebZ x y g % x
def c2Z (x y g : Int) : Int := if eaZ x y g < 0 then -1 else if g < (x - 1) * y then c1Z x y g + x + 1 else c1Z x y g + 1
/-- How many corners there are. -/
def cosZ (x y : Int) : Int := if 1 ≤ x ∧ x ≤ 4 ∧ 1 ≤ y ∧ y ≤ 4 then (x + 1) * (y + 1) else 0
def edB (x y c : Int) : Bool := decide (0 ≤ c ∧ c ≤ cosZ x y - 1) && (c % (x + 1) == 0 || c % (x + 1) == x || c / (x + 1) == 0 || c / (x + 1) == y)
def c1N (x y : Int) (g : Nat) : Nat := (c1Z x y g).toNat
def c2N (x y : Int) (g : Nat) : Nat := (c2Z x y g).toNat
def coN (x y : Int) : Nat := (cosZ x y).toNat
/-- The corners above which a step leads, right of it. -/
def dgB (x y : Int) (g c : Nat) : Bool := decide (¬ (g : Int) < (x - 1) * y) && decide ((c : Int) / (x + 1) = ebZ x y g / x) && decide (ebZ x y g % x < (c : Int) % (x + 1))
/-- The gaps right of a cell. -/
def ryB (x y : Int) (u g : Nat) : Bool := decide ((g : Int) < (x - 1) * y) && decide (ebZ x y g / x = (u : Int) / x) && decide ((u : Int) % x < ebZ x y g % x)
/-- The corners at the right edge, below a cell. -/
def ryE (x y : Int) (u c : Nat) : Bool := decide ((c : Int) % (x + 1) = x) && decide ((u : Int) / x < (c : Int) / (x + 1))
theorem f1_fin : ∀ w h : Fin 4, ∀ g g' : Fin 24, (gpsZ ((w : Nat) + 1) ((h : Nat) + 1) ≤ (g : Nat)) ∨ (gpsZ ((w : Nat) + 1) ((h : Nat) + 1) ≤ (g' : Nat)) ∨
    (xor (xor (dgB ((w : Nat) + 1) ((h : Nat) + 1) g (c1N ((w : Nat) + 1) ((h : Nat) + 1) g')) (dgB ((w : Nat) + 1) ((h : Nat) + 1) g (c2N ((w : Nat) + 1) ((h : Nat) + 1) g'))) (decide (g = g')) =
      xor (ryB ((w : Nat) + 1) ((h : Nat) + 1) (aN ((w : Nat) + 1) ((h : Nat) + 1) g) g') (ryB ((w : Nat) + 1) ((h : Nat) + 1) (bN ((w : Nat) + 1) ((h : Nat) + 1) g) g')) := by decide +kernel
theorem f2_fin : ∀ w h : Fin 4, ∀ g : Fin 24, ∀ c : Fin 25, (gpsZ ((w : Nat) + 1) ((h : Nat) + 1) ≤ (g : Nat)) ∨ edB ((w : Nat) + 1) ((h : Nat) + 1) (c : Nat) = false ∨
    (dgB ((w : Nat) + 1) ((h : Nat) + 1) g c = xor (ryE ((w : Nat) + 1) ((h : Nat) + 1) (aN ((w : Nat) + 1) ((h : Nat) + 1) g) c) (ryE ((w : Nat) + 1) ((h : Nat) + 1) (bN ((w : Nat) + 1) ((h : Nat) + 1) g) c)) := by decide +kernel
theorem f3_fin : ∀ w h : Fin 4, ∀ g : Fin 24, (gpsZ ((w : Nat) + 1) ((h : Nat) + 1) ≤ (g : Nat)) ∨ (0 ≤ c1Z ((w : Nat) + 1) ((h : Nat) + 1) (g : Nat) ∧ c1Z ((w : Nat) + 1) ((h : Nat) + 1) (g : Nat) < c2Z ((w : Nat) + 1) ((h : Nat) + 1) (g : Nat) ∧ c2Z ((w : Nat) + 1) ((h : Nat) + 1) (g : Nat) < cosZ ((w : Nat) + 1) ((h : Nat) + 1)) := by decide +kernel
/-- The labels at the start: all corners at the edge have one. -/
def l0N (x y : Int) (c : Nat) : Nat := if edB x y c = true then 0 else c
theorem nd0_fin : ∀ w h : Fin 4, nD (l0N ((w : Nat) + 1) ((h : Nat) + 1)) (coN ((w : Nat) + 1) ((h : Nat) + 1)) = (w : Nat) * (h : Nat) + 1 ∧ edB ((w : Nat) + 1) ((h : Nat) + 1) 0 = true ∧ coN ((w : Nat) + 1) ((h : Nat) + 1) = ((w : Nat) + 2) * ((h : Nat) + 2) := by decide +kernel
theorem gn_fin : ∀ w h : Fin 4, gN ((w : Nat) + 1) ((h : Nat) + 1) + 1 = cN ((w : Nat) + 1) ((h : Nat) + 1) + ((((w : Nat) : Int) + 1 - 1) * (((h : Nat) : Int) + 1 - 1)).toNat := by decide +kernel
theorem fins (hk : OkZ x y) : ∃ w h : Fin 4, x = (w : Nat) + 1 ∧ y = (h : Nat) + 1 := by
  obtain ⟨h1, h2, h3, h4⟩ := hk
  exact ⟨⟨(x - 1).toNat, by omega⟩, ⟨(y - 1).toNat, by omega⟩, by simp; omega, by simp; omega⟩
theorem f1 (hk : OkZ x y) {g g' : Nat} (hg : g < gN x y) (hg' : g' < gN x y) : xor (xor (dgB x y g (c1N x y g')) (dgB x y g (c2N x y g'))) (decide (g = g')) = xor (ryB x y (aN x y g) g') (ryB x y (bN x y g) g') := by
  obtain ⟨b1, b2⟩ := gps_bd hk.1 hk.2.1 hk.2.2.1 hk.2.2.2
  unfold gN at hg hg'
  obtain ⟨w, h, rfl, rfl⟩ := fins hk
  have := f1_fin w h ⟨g, by omega⟩ ⟨g', by omega⟩
  rcases this with e | e | e
  · simp only at e; omega
  · simp only at e; omega
  · simpa using e
theorem f2 (hk : OkZ x y) {g c : Nat} (hg : g < gN x y) (hc : edB x y c = true) : dgB x y g c = xor (ryE x y (aN x y g) c) (ryE x y (bN x y g) c) := by
  obtain ⟨b1, b2⟩ := gps_bd hk.1 hk.2.1 hk.2.2.1 hk.2.2.2
  have hc25 : c < 25 := by
    unfold edB at hc
    rw [Bool.and_eq_true] at hc
    have h1 := of_decide_eq_true hc.1
    unfold cosZ at h1
    rw [if_pos (show 1 ≤ x ∧ x ≤ 4 ∧ 1 ≤ y ∧ y ≤ 4 from hk)] at h1
    have : (x + 1) * (y + 1) ≤ 5 * 5 := Int.mul_le_mul (by have := hk.2.1; omega) (by have := hk.2.2.2; omega) (by have := hk.2.2.1; omega) (by decide)
    omega
  unfold gN at hg
  obtain ⟨w, h, rfl, rfl⟩ := fins hk
  have := f2_fin w h ⟨g, by omega⟩ ⟨c, hc25⟩
  rcases this with e | e | e
  · simp only at e; omega
  · simp only at e; rw [e] at hc; cases hc
  · exact e
theorem f3 (hk : OkZ x y) {g : Nat} (hg : g < gN x y) : c1Z x y g = (c1N x y g : Int) ∧ c2Z x y g = (c2N x y g : Int) ∧ c1N x y g < c2N x y g ∧ c2N x y g < coN x y := by
  obtain ⟨b1, b2⟩ := gps_bd hk.1 hk.2.1 hk.2.2.1 hk.2.2.2
  unfold gN at hg
  unfold c1N c2N coN
  obtain ⟨w, h, rfl, rfl⟩ := fins hk
  have := f3_fin w h ⟨g, by omega⟩
  rcases this with e | e
  · simp only at e; omega
  · simp only at e; omega
theorem ed_zero (hk : OkZ x y) : edB x y (0 : Nat) = true := by
  obtain ⟨w, h, rfl, rfl⟩ := fins hk
  exact (nd0_fin w h).2.1
theorem l0_inv {f : Nat → Bool} (hk : OkZ x y) (hf : ∀ c : Nat, edB x y c = true → f c = false) (i j : Nat) (h : l0N x y i = l0N x y j) : f i = f j := by
  have h0 := ed_zero hk
  unfold l0N at h
  split at h <;> split at h <;> rename_i e1 e2
  · rw [hf i e1, hf j e2]
  · subst h; exact absurd h0 e2
  · subst h; exact absurd h0 e1
  · rw [h]

/-- A closed way through a gap parts the gap's corners. -/
theorem jordan {o k : Nat} (hk : OkZ x y) (ho : o < 2 ^ gN x y) (hg : k < gN x y) (hb : bt o k = 0) (hc : Cn x y o (aN x y k) (bN x y k)) :
    ∃ f : Nat → Bool, (∀ c : Nat, edB x y c = true → f c = false) ∧ (∀ g, g < gN x y → bt o g = 0 → g ≠ k → f (c1N x y g) = f (c2N x y g)) ∧ f (c1N x y k) ≠ f (c2N x y k) := by
  have key : ∃ f : Nat → Bool, (∀ c : Nat, edB x y c = true → f c = xor (ryE x y (aN x y k) c) (ryE x y (bN x y k) c)) ∧ ∀ g, g < gN x y → bt o g = 0 → xor (f (c1N x y g)) (f (c2N x y g)) = xor (ryB x y (aN x y k) g) (ryB x y (bN x y k) g) := by
    refine cn_ind (E := fun u v => ∃ f : Nat → Bool, (∀ c : Nat, edB x y c = true → f c = xor (ryE x y u c) (ryE x y v c)) ∧ ∀ g, g < gN x y → bt o g = 0 → xor (f (c1N x y g)) (f (c2N x y g)) = xor (ryB x y u g) (ryB x y v g)) (okm hk ho) (fun u => ⟨fun _ => false, fun c _ => by simp, fun g _ _ => by simp⟩) ?_ ?_ ?_ hc
    · rintro u v ⟨f, h1, h2⟩
      exact ⟨f, fun c h => by rw [h1 c h, Bool.xor_comm], fun g h h' => by rw [h2 g h h', Bool.xor_comm]⟩
    · rintro u v t ⟨f, h1, h2⟩ ⟨f', h1', h2'⟩
      refine ⟨fun c => xor (f c) (f' c), fun c h => ?_, fun g h h' => ?_⟩
      · simp only; rw [h1 c h, h1' c h]
        cases ryE x y u c <;> cases ryE x y v c <;> cases ryE x y t c <;> rfl
      · simp only
        have e1 := h2 g h h'
        have e2 := h2' g h h'
        revert e1 e2
        cases f (c1N x y g) <;> cases f (c2N x y g) <;> cases f' (c1N x y g) <;> cases f' (c2N x y g) <;> cases ryB x y u g <;> cases ryB x y v g <;> cases ryB x y t g <;> decide
    · intro g hg' hb'
      refine ⟨dgB x y g, fun c h => f2 hk hg' h, fun g' h h' => ?_⟩
      have hne : g ≠ g' := fun e => by rw [e] at hb'; omega
      have := f1 hk hg' h
      rw [decide_eq_false hne, Bool.xor_false] at this
      exact this
  obtain ⟨f, h1, h2⟩ := key
  refine ⟨fun c => xor (f c) (dgB x y k c), fun c h => ?_, fun g h h' hne => ?_, ?_⟩
  · simp only; rw [h1 c h, f2 hk hg h, Bool.xor_self]
  · simp only
    have e1 := h2 g h h'
    have e2 := f1 hk hg h
    rw [decide_eq_false (fun e => hne e.symm), Bool.xor_false] at e2
    rw [← e1] at e2
    revert e2
    cases f (c1N x y g) <;> cases f (c2N x y g) <;> cases dgB x y k (c1N x y g) <;> cases dgB x y k (c2N x y g) <;> decide
  · simp only
    have e1 := h2 k hg hb
    have e2 := f1 hk hg hg
    rw [decide_eq_true rfl] at e2
    rw [← e1] at e2
    revert e2
    cases f (c1N x y k) <;> cases f (c2N x y k) <;> cases dgB x y k (c1N x y k) <;> cases dgB x y k (c2N x y k) <;> decide

/-! ### the parts of the walls -/
def clB (o g : Nat) : Bool := decide (bt o g = 0)
def opB (o g : Nat) : Bool := decide (bt o g = 1)
/-- The labels behind the walls at the first k gaps. -/
def wlbN (x y : Int) (o k : Nat) : Nat → Nat := lbN (clB o) (c1N x y) (c2N x y) (l0N x y) k
/-- The number of parts of the walls. -/
def wpN (x y : Int) (o : Nat) : Nat := nD (wlbN x y o (gN x y)) (coN x y)
def wrbN (x y : Int) (o k : Nat) : Nat → Nat := lbN (opB o) (c1N x y) (c2N x y) (wlbN x y o (gN x y)) k
theorem nd_le {L : Nat → Nat} {n a b : Nat} (ha : a < n) (hb : b < n) : nD (mgN L a b) n ≤ nD L n := by
  by_cases h : L a = L b
  · rw [(nd_merge ha hb).1 h]; exact Nat.le_refl _
  · have := (nd_merge ha hb).2 h; omega
theorem chain1 {o : Nat} (hk : OkZ x y) (ho : o < 2 ^ gN x y) : ∀ j k, k + j = gN x y → ∃ o', o' < 2 ^ gN x y ∧ (∀ g, g < gN x y → bt o' g = if g < k then bt o g else 1) ∧
    gN x y + pcN o k + pt x y o' + wpN x y o ≤ k + pcN o (gN x y) + pt x y o + nD (wlbN x y o k) (coN x y)
  | 0, k, h => by
    obtain rfl : k = gN x y := by omega
    exact ⟨o, ho, fun g hg => by rw [if_pos hg], by unfold wpN; omega⟩
  | j + 1, k, h => by
    have hkg : k < gN x y := by omega
    obtain ⟨o', h1, h2, h3⟩ := chain1 hk ho j (k + 1) (by omega)
    have hp : pcN o (k + 1) = pcN o k + bt o k := rfl
    obtain ⟨-, -, hc1, hc2⟩ := f3 hk hkg
    have hb2 := bt_le o k
    by_cases hb : bt o k = 0
    · have hb' : bt o' k = 0 := by rw [h2 k hkg, if_pos (by omega), hb]
      obtain ⟨p1, p2⟩ := pt_add hk h1 hkg hb'
      have hw : wlbN x y o (k + 1) = mgN (wlbN x y o k) (c1N x y k) (c2N x y k) := by
        unfold wlbN; rw [lbN, if_pos (show clB o k = true from decide_eq_true hb)]
      refine ⟨o' + 2 ^ k, add_lt h1 hkg hb', fun g hg => ?_, ?_⟩
      · rw [bt_add hb', h2 g hg]
        by_cases e : g = k
        · rw [if_pos e, if_neg (by omega)]
        · rw [if_neg e]
          by_cases e' : g < k
          · rw [if_pos (by omega), if_pos e']
          · rw [if_neg (by omega), if_neg e']
      · rw [hw] at h3
        by_cases hc : Cn x y o' (aN x y k) (bN x y k)
        · obtain ⟨f, q1, q2, q3⟩ := jordan hk h1 hkg hb' hc
          have hne : wlbN x y o k (c1N x y k) ≠ wlbN x y o k (c2N x y k) := fun e => q3 (lb_inv (S := clB o) (l0_inv hk q1) k (fun g hg hs => q2 g (by omega) (by rw [h2 g (by omega), if_pos (by omega)]; exact of_decide_eq_true hs) (by omega)) _ _ e)
          have := (nd_merge (show c1N x y k < coN x y by omega) hc2).2 hne
          have := p1 hc
          omega
        · have := nd_le (L := wlbN x y o k) (show c1N x y k < coN x y by omega) hc2
          have := p2 hc
          omega
    · have hb1 : bt o k = 1 := by omega
      have hw : wlbN x y o (k + 1) = wlbN x y o k := by
        unfold wlbN; rw [lbN, if_neg (by unfold clB; rw [decide_eq_true_iff]; omega)]
      refine ⟨o', h1, fun g hg => ?_, by rw [hw] at h3; omega⟩
      rw [h2 g hg]
      by_cases e : g < k
      · rw [if_pos (by omega), if_pos e]
      · rw [if_neg e]
        by_cases e' : g = k
        · rw [if_pos (by omega), e', hb1]
        · rw [if_neg (by omega)]
theorem chain2 {o : Nat} (hk : OkZ x y) (ho : o < 2 ^ gN x y) : ∀ j k, k + j = gN x y → ∃ o', o' < 2 ^ gN x y ∧ (∀ g, g < gN x y → bt o' g = if g < k then 0 else bt o g) ∧
    pcN o (gN x y) + pt x y o' + nD (wrbN x y o (gN x y)) (coN x y) ≤ pcN o k + cN x y + nD (wrbN x y o k) (coN x y)
  | 0, k, h => by
    obtain rfl : k = gN x y := by omega
    refine ⟨0, Nat.pow_pos (by decide), fun g hg => by rw [if_pos hg]; simp [bt], ?_⟩
    rw [pt_none hk]; omega
  | j + 1, k, h => by
    have hkg : k < gN x y := by omega
    obtain ⟨o', h1, h2, h3⟩ := chain2 hk ho j (k + 1) (by omega)
    have hp : pcN o (k + 1) = pcN o k + bt o k := rfl
    obtain ⟨-, -, hc1, hc2⟩ := f3 hk hkg
    have hb2 := bt_le o k
    by_cases hb : bt o k = 1
    · have hb' : bt o' k = 0 := by rw [h2 k hkg, if_pos (by omega)]
      obtain ⟨p1, p2⟩ := pt_add hk h1 hkg hb'
      have hw : wrbN x y o (k + 1) = mgN (wrbN x y o k) (c1N x y k) (c2N x y k) := by
        unfold wrbN; rw [lbN, if_pos (show opB o k = true from decide_eq_true hb)]
      refine ⟨o' + 2 ^ k, add_lt h1 hkg hb', fun g hg => ?_, ?_⟩
      · rw [bt_add hb', h2 g hg]
        by_cases e : g = k
        · rw [if_pos e, if_neg (by omega), e, hb]
        · rw [if_neg e]
          by_cases e' : g < k
          · rw [if_pos (by omega), if_pos e']
          · rw [if_neg (by omega), if_neg e']
      · rw [hw] at h3
        by_cases hc : Cn x y o' (aN x y k) (bN x y k)
        · obtain ⟨f, q1, q2, q3⟩ := jordan hk h1 hkg hb' hc
          have hne : wrbN x y o k (c1N x y k) ≠ wrbN x y o k (c2N x y k) := fun e => q3 (lb_inv (S := opB o) (lb_inv (S := clB o) (l0_inv hk q1) (gN x y) (fun g hg hs => by
              have hs' : bt o g = 0 := of_decide_eq_true hs
              exact q2 g hg (by rw [h2 g hg]; split <;> omega) (fun e => by rw [e] at hs'; omega))) k (fun g hg hs => q2 g (by omega) (by rw [h2 g (by omega), if_pos (by omega)]) (by omega)) _ _ e)
          have := (nd_merge (show c1N x y k < coN x y by omega) hc2).2 hne
          have := p1 hc
          omega
        · have := nd_le (L := wrbN x y o k) (show c1N x y k < coN x y by omega) hc2
          have := p2 hc
          omega
    · have hb1 : bt o k = 0 := by omega
      have hw : wrbN x y o (k + 1) = wrbN x y o k := by
        unfold wrbN; rw [lbN, if_neg (by unfold opB; rw [decide_eq_true_iff]; omega)]
      refine ⟨o', h1, fun g hg => ?_, by rw [hw] at h3; omega⟩
      rw [h2 g hg]
      by_cases e : g < k
      · rw [if_pos (by omega), if_pos e]
      · rw [if_neg e]
        by_cases e' : g = k
        · rw [if_pos (by omega), e', hb1]
        · rw [if_neg (by omega)]
/-- Walls are the other side of ways. -/
theorem walls {o : Nat} (hk : OkZ x y) (ho : o < 2 ^ gN x y) : (wpN x y o : Int) = lp x y o + 1 := by
  obtain ⟨o1, a1, a2, a3⟩ := chain1 hk ho (gN x y) 0 (by omega)
  obtain ⟨o2, b1, b2, b3⟩ := chain2 hk ho (gN x y) 0 (by omega)
  have e2 : pt x y o2 = pt x y o := pt_same fun u v => ⟨cn_mono (okm hk b1) (okm hk ho) (fun g hg hb => by rw [b2 g hg, if_neg (by omega)] at hb; exact hb), cn_mono (okm hk ho) (okm hk b1) (fun g hg hb => by rw [b2 g hg, if_neg (by omega)]; exact hb)⟩
  have hp0 : pcN o 0 = 0 := rfl
  have hw0 : nD (wrbN x y o 0) (coN x y) = wpN x y o := rfl
  obtain ⟨n0, -, n2⟩ : nD (l0N x y) (coN x y) = ((x - 1) * (y - 1)).toNat + 1 ∧ True ∧ 0 < coN x y ∧ gN x y + 1 = cN x y + ((x - 1) * (y - 1)).toNat := by
    obtain ⟨w, h, rfl, rfl⟩ := fins hk
    have := nd0_fin w h
    refine ⟨?_, trivial, ?_, ?_⟩
    · rw [this.1]
      have : ((w : Nat) : Int) + 1 - 1 = (w : Nat) := by omega
      rw [this]
      have : ((h : Nat) : Int) + 1 - 1 = (h : Nat) := by omega
      rw [this]
      norm_cast
    · rw [this.2.2]; exact Nat.mul_pos (by omega) (by omega)
    · exact gn_fin w h
  have hl0 : nD (wlbN x y o 0) (coN x y) = nD (l0N x y) (coN x y) := rfl
  have hv := nd_pos (wrbN x y o (gN x y)) n2.1
  have hpt : 1 ≤ pt x y o1 := by
    unfold pt; rw [cp_cnt]
    have hN : 0 < cN x y := by
      unfold cN
      have := Int.mul_pos (show 0 < x by have := hk.1; omega) (show 0 < y by have := hk.2.2.1; omega)
      omega
    have hone : ∀ n, 0 < n → n ≤ cN x y → 1 ≤ cnt (isLeast (stN x y o1) (cN x y)) n := by
      intro n
      induction n with
      | zero => omega
      | succ n ih =>
        intro _ hn
        unfold cnt
        rcases Nat.eq_zero_or_pos n with e | e
        · subst e
          rw [(least_iff hN).2 fun j hj => absurd hj (by omega)]; simp [cnt]
        · have := ih e (by omega); omega
    exact hone _ hN (Nat.le_refl _)
  unfold lp
  omega
end
end Go.Proofs.Ytnfnandpcjgmmaa.walP

/- What the functions on walls answer, and what their laws ask. -/
namespace Go.Proofs.Ytnfnandpcjgmmaa.walR
open gridP gridQ bitP mazeP mazeQ reachP reachM reachN reachD forest perfP walP
set_option linter.unusedVariables false

/-- The number of parts of the walls. -/
def wpZ (x y z : Int) : Int := if OkM x y z then (wpN x y z.toNat : Int) else 0
def wlpZ (x y z : Int) : Int := if OkM x y z then gpsZ x y - cpZ x y z - (x - 1) * (y - 1) - 1 + wpZ x y z else 0
def wtB (x y z : Int) : Bool := decide (OkM x y z) && wpZ x y z == 1 && wlpZ x y z == 0

/-! ### lists of labels -/
def lbl (L : Nat → Nat) (n : Nat) : List Int := (List.range n).map fun c => (L c : Int)
theorem lbl_len (L : Nat → Nat) (n : Nat) : (lbl L n).length = n := by simp [lbl]
theorem lbl_at (L : Nat → Nat) {n j : Nat} (h : j < n) : (lbl L n)[j]? = some (L j : Int) := by
  unfold lbl; rw [List.getElem?_map, List.getElem?_range h]; rfl
theorem lbl_getD (L : Nat → Nat) {n j : Nat} (h : j < n) (d : Int) : (lbl L n).getD j d = (L j : Int) := by
  rw [List.getD_eq_getElem?_getD, lbl_at L h]; rfl
theorem lbl_ext {L L' : Nat → Nat} {n : Nat} (h : ∀ j, j < n → L j = L' j) : lbl L n = lbl L' n := by
  unfold lbl
  refine List.map_congr_left fun j hj => ?_
  rw [h j (List.mem_range.1 hj)]
theorem lbl_set (L : Nat → Nat) {L' : Nat → Nat} {n k u : Nat} (hk : k < n) (hu : L' k = u) (h : ∀ j, j < n → j ≠ k → L' j = L j) : (lbl L n).set k (u : Int) = lbl L' n := by
  apply List.ext_getElem?
  intro j
  rw [List.getElem?_set]
  by_cases e : k = j
  · subst e
    rw [if_pos rfl, lbl_at _ hk, if_pos (by rw [lbl_len]; exact hk), hu]
  · rw [if_neg e]
    by_cases hj : j < n
    · rw [lbl_at _ hj, lbl_at _ hj, h j hj (fun e' => e e'.symm)]
    · rw [List.getElem?_eq_none (by rw [lbl_len]; omega), List.getElem?_eq_none (by rw [lbl_len]; omega)]
theorem lbl_zero (n : Nat) : List.replicate n (0 : Int) = lbl (fun _ => 0) n := by
  apply List.ext_getElem?
  intro j
  by_cases hj : j < n
  · rw [lbl_at _ hj]; simp [hj]
  · rw [List.getElem?_eq_none (by simp; omega), List.getElem?_eq_none (by rw [lbl_len]; omega)]
/-- While the first labels are written. -/
def i0N (L : Nat → Nat) (k : Nat) : Nat → Nat := fun c => if c < k then L c else 0
theorem i0_at {L : Nat → Nat} {k : Nat} : i0N L (k + 1) k = L k := by simp [i0N]
theorem i0_far {L : Nat → Nat} {k j : Nat} (h : j ≠ k) : i0N L (k + 1) j = i0N L k j := by
  unfold i0N
  by_cases hj : j < k
  · rw [if_pos hj, if_pos (by omega)]
  · rw [if_neg hj, if_neg (by omega)]
theorem i0_all (L : Nat → Nat) (n : Nat) : lbl (i0N L n) n = lbl L n := lbl_ext fun j hj => by simp [i0N, hj]
/-- While two labels are made one. -/
def miN (L : Nat → Nat) (a b i : Nat) : Nat → Nat := fun c => if c < i then mgN L a b c else L c
theorem mi_zero (L : Nat → Nat) (a b : Nat) : miN L a b 0 = L := by funext c; simp [miN]
theorem mi_a (L : Nat → Nat) (a b i : Nat) : miN L a b i a = L a := by
  unfold miN mgN
  split
  · split <;> rfl
  · rfl
theorem mi_here (L : Nat → Nat) (a b i : Nat) : miN L a b i i = L i := by simp [miN]
theorem mi_step (L : Nat → Nat) (a b i : Nat) : miN L a b (i + 1) i = if L i = L b then L a else L i := by simp [miN, mgN]
theorem mi_far {L : Nat → Nat} {a b i j : Nat} (h : j ≠ i) : miN L a b (i + 1) j = miN L a b i j := by
  unfold miN
  by_cases hj : j < i
  · rw [if_pos hj, if_pos (by omega)]
  · rw [if_neg hj, if_neg (by omega)]
theorem mi_keep {L : Nat → Nat} {a b i : Nat} (h : L i ≠ L b) : miN L a b (i + 1) = miN L a b i := by
  funext j
  by_cases e : j = i
  · subst e; rw [mi_step, if_neg h, mi_here]
  · exact mi_far e
theorem mi_all (L : Nat → Nat) (a b n : Nat) : lbl (miN L a b n) n = lbl (mgN L a b) n := lbl_ext fun j hj => by simp [miN, hj]

section
variable {x y : Int}
theorem co_pos (hk : OkZ x y) : coN x y = ((x + 1) * (y + 1)).toNat ∧ 4 ≤ coN x y ∧ coN x y ≤ 25 ∧ cosZ x y = (coN x y : Int) := by
  obtain ⟨h1, h2, h3, h4⟩ := hk
  have e : cosZ x y = (x + 1) * (y + 1) := by unfold cosZ; rw [if_pos ⟨h1, h2, h3, h4⟩]
  have hb : 4 ≤ (x + 1) * (y + 1) ∧ (x + 1) * (y + 1) ≤ 25 := by
    have a : (x + 1) * 2 ≤ (x + 1) * (y + 1) := Int.mul_le_mul_of_nonneg_left (by omega) (by omega)
    have b : (x + 1) * (y + 1) ≤ (x + 1) * 5 := Int.mul_le_mul_of_nonneg_left (by omega) (by omega)
    omega
  unfold coN
  rw [e]
  refine ⟨rfl, by omega, by omega, by omega⟩
theorem wlb_lt (hk : OkZ x y) (o : Nat) : ∀ k, k ≤ gN x y → ∀ c, c < coN x y → wlbN x y o k c < coN x y
  | 0, _, c, hc => by
    show l0N x y c < _
    unfold l0N
    have := (co_pos hk).2.1
    split <;> omega
  | k + 1, hg, c, hc => by
    obtain ⟨-, -, f3a, f3b⟩ := f3 hk (g := k) (by omega)
    have ih := wlb_lt hk o k (by omega)
    show lbN (clB o) (c1N x y) (c2N x y) (l0N x y) (k + 1) c < _
    unfold lbN
    split
    · unfold mgN
      split
      · exact ih _ (by omega)
      · exact ih _ hc
    · exact ih _ hc
theorem wlb_yes {o k : Nat} (h : bt o k = 0) : wlbN x y o (k + 1) = mgN (wlbN x y o k) (c1N x y k) (c2N x y k) := by
  show lbN _ _ _ _ (k + 1) = _
  rw [lbN, if_pos (show clB o k = true from decide_eq_true h)]; rfl
theorem wlb_no {o k : Nat} (h : bt o k ≠ 0) : wlbN x y o (k + 1) = wlbN x y o k := by
  show lbN _ _ _ _ (k + 1) = _
  rw [lbN, if_neg (show ¬ clB o k = true by unfold clB; simpa using h)]; rfl
theorem wp_le (x y : Int) (o : Nat) : wpN x y o ≤ coN x y := by
  unfold wpN nD
  generalize coN x y = n
  generalize frB _ = p
  induction n with
  | zero => exact Nat.le_refl _
  | succ n ih => unfold cnt; split <;> omega
/-- What the law of walls asks. -/
theorem fwalls {z : Int} (hv : OkM x y z) : ipB x y z = wtB x y z ∧ wpZ x y z = clZ x y z + 1 ∧ wlpZ x y z = ptZ x y z - 1 := by
  obtain ⟨hk, o, rfl, ho⟩ := okm_of hv
  have hw := walls hk ho
  have hp : ptZ x y o = (pt x y o : Int) := by unfold ptZ pt; rw [if_pos hv]
  have hc : cpZ x y o = (pcN o (gN x y) : Int) := by
    unfold cpZ; rw [if_pos hv, Int.toNat_natCast]
    have := pc_all hv
    rw [Int.toNat_natCast] at this
    rw [← this]; rfl
  obtain ⟨h1, h2, h3, h4⟩ := id hk
  have hxy := (mul_bd x y h1 h2 h3 h4).1
  have hN : (cN x y : Int) = x * y := by unfold cN; omega
  have hcl : clZ x y o = lp x y o := by
    unfold clZ lp; rw [if_pos hv, hp, hc, hN]
  have hwp : wpZ x y o = lp x y o + 1 := by unfold wpZ; rw [if_pos hv, Int.toNat_natCast, hw]
  have hwl : wlpZ x y o = ptZ x y o - 1 := by
    unfold wlpZ; rw [if_pos hv, hwp, hp, hc]
    have hg : gpsZ x y - (x - 1) * (y - 1) = x * y - 1 := by
      unfold gpsZ
      rcases (by omega : x = 1 ∨ x = 2 ∨ x = 3 ∨ x = 4) with rfl | rfl | rfl | rfl <;> omega
    unfold lp
    omega
  refine ⟨?_, by rw [hwp, hcl], hwl⟩
  unfold ipB wtB cnB
  rw [decide_eq_true hv, hwp, hwl, hp, hc, Bool.true_and, Bool.eq_iff_iff]
  simp only [Bool.and_eq_true, beq_iff_eq]
  unfold lp
  omega
theorem corner_fin : ∀ w h : Fin 4, ∀ g : Fin 24, (gpsZ ((w : Nat) + 1) ((h : Nat) + 1) ≤ (g : Nat)) ∨
    ((c2Z ((w : Nat) + 1) ((h : Nat) + 1) (g : Nat) - c1Z ((w : Nat) + 1) ((h : Nat) + 1) (g : Nat) = 1 ∨ c2Z ((w : Nat) + 1) ((h : Nat) + 1) (g : Nat) - c1Z ((w : Nat) + 1) ((h : Nat) + 1) (g : Nat) = (w : Nat) + 1 + 1) ∧
      ((w : Nat) = 0 ∨ (h : Nat) = 0 ∨ edB ((w : Nat) + 1) ((h : Nat) + 1) (c1Z ((w : Nat) + 1) ((h : Nat) + 1) (g : Nat)) = false ∨ edB ((w : Nat) + 1) ((h : Nat) + 1) (c2Z ((w : Nat) + 1) ((h : Nat) + 1) (g : Nat)) = false)) := by decide +kernel
theorem inner_fin : ∀ w h : Fin 4, (cnt (fun c => !edB ((w : Nat) + 1) ((h : Nat) + 1) (c : Nat)) (coN ((w : Nat) + 1) ((h : Nat) + 1)) : Int) = ((w : Nat) : Int) * (h : Nat) := by decide +kernel
/-- What the law of corners asks of each gap. -/
theorem corner {g : Nat} (hk : OkZ x y) (hg : g < gN x y) : (0 ≤ c1Z x y g ∧ c1Z x y g < c2Z x y g ∧ c2Z x y g < cosZ x y) ∧ (c2Z x y g - c1Z x y g = 1 ∨ c2Z x y g - c1Z x y g = x + 1) ∧
    (¬ 1 < x ∨ ¬ 1 < y ∨ edB x y (c1Z x y g) = false ∨ edB x y (c2Z x y g) = false) := by
  obtain ⟨a1, a2, a3, a4⟩ := f3 hk hg
  obtain ⟨-, -, -, b4⟩ := co_pos hk
  obtain ⟨w, h, rfl, rfl⟩ := fins hk
  have hb := gps_bd hk.1 hk.2.1 hk.2.2.1 hk.2.2.2
  have hg24 : g < 24 := by unfold gN at hg; omega
  have := corner_fin w h ⟨g, hg24⟩
  refine ⟨by omega, ?_⟩
  rcases this with h' | ⟨h1, h2⟩
  · exfalso; unfold gN at hg; simp only at h'; omega
  · refine ⟨h1, ?_⟩
    rcases h2 with h2 | h2 | h2 | h2
    · left; omega
    · right; left; omega
    · right; right; left; exact h2
    · right; right; right; exact h2
theorem inner (hk : OkZ x y) : (cnt (fun c => !edB x y (c : Nat)) (coN x y) : Int) = (x - 1) * (y - 1) := by
  obtain ⟨w, h, rfl, rfl⟩ := fins hk
  rw [inner_fin w h, show ((w : Nat) : Int) + 1 - 1 = (w : Nat) by omega, show ((h : Nat) : Int) + 1 - 1 = (h : Nat) by omega]
end
end Go.Proofs.Ytnfnandpcjgmmaa.walR

/- Parts of the walls that bear the number of one of their corners: as many corners bear their own number as there are parts. -/
namespace Go.Proofs.Ytnfnandpcjgmmaa.walS
open gridP gridQ bitP mazeP mazeQ reachP reachM reachN reachD forest perfP walP walR
set_option linter.unusedVariables false

theorem mg_iff {L : Nat → Nat} (a b i j : Nat) : mgN L a b i = mgN L a b j ↔ L i = L j ∨ (L i = L a ∧ L j = L b) ∨ (L i = L b ∧ L j = L a) := by
  unfold mgN
  split <;> split <;> rename_i e1 e2
  · exact ⟨fun _ => .inl (e1.trans e2.symm), fun _ => rfl⟩
  · refine ⟨fun e => .inr (.inr ⟨e1, e.symm⟩), ?_⟩
    rintro (e | ⟨e, e'⟩ | ⟨e, e'⟩)
    · exact absurd (e.symm.trans e1) e2
    · exact absurd e' e2
    · exact e'.symm
  · refine ⟨fun e => .inr (.inl ⟨e, e2⟩), ?_⟩
    rintro (e | ⟨e, e'⟩ | ⟨e, e'⟩)
    · exact absurd (e.trans e2) e1
    · exact e
    · exact absurd e e1
  · refine ⟨.inl, ?_⟩
    rintro (e | ⟨e, e'⟩ | ⟨e, e'⟩)
    · exact e
    · exact absurd e' e2
    · exact absurd e e1
/-- Does a corner bear its own number? -/
def ownB (L : Nat → Nat) (c : Nat) : Bool := L c == c
theorem mg_same {L : Nat → Nat} {a b : Nat} (h : L a = L b) : mgN L a b = L := by
  funext c; unfold mgN; split
  · rename_i e; rw [e, h]
  · rfl
theorem own_merge {L : Nat → Nat} {n a b : Nat} (hi : ∀ c, L (L c) = L c) (hb : L b < n) (h : L a ≠ L b) : cnt (ownB L) n = cnt (ownB (mgN L a b)) n + 1 := by
  refine cnt_del (c := L b) ?_ ?_ hb fun k hk hkb => ?_
  · unfold ownB; rw [hi]; simp
  · unfold ownB mgN; rw [if_pos (hi b)]; simpa using h
  · unfold ownB mgN
    by_cases e : L k = L b
    · rw [if_pos e, Bool.eq_iff_iff]
      simp only [beq_iff_eq]
      refine ⟨fun e' => absurd (e'.symm.trans e) hkb, fun e' => ?_⟩
      have h1 := hi a
      rw [e'] at h1
      exact absurd (e'.trans (h1.symm.trans e)) h
    · rw [if_neg e]
theorem idem_merge {L : Nat → Nat} {a b : Nat} (hi : ∀ c, L (L c) = L c) : ∀ c, mgN L a b (mgN L a b c) = mgN L a b c := by
  intro c
  by_cases e : L c = L b
  · have e1 : mgN L a b c = L a := by unfold mgN; rw [if_pos e]
    rw [e1]
    unfold mgN
    rw [hi]; split <;> rfl
  · have e1 : mgN L a b c = L c := by unfold mgN; rw [if_neg e]
    rw [e1]
    unfold mgN
    rw [hi, if_neg e]

section
variable {x y : Int}
/-- While the first numbers are written. -/
def u0N (x y : Int) (k : Nat) : Nat → Nat := fun c => if c < k ∧ edB x y (c : Nat) = false then c else 0
def p0N (x y : Int) : Nat → Nat := u0N x y (coN x y)
theorem u0_zero : u0N x y 0 = fun _ => 0 := by funext c; unfold u0N; rw [if_neg (fun e => absurd e.1 (Nat.not_lt_zero c))]
theorem u0_at {k : Nat} (h : edB x y (k : Nat) = false) : u0N x y (k + 1) k = k := by unfold u0N; rw [if_pos ⟨Nat.lt_succ_self k, h⟩]
theorem u0_far {k j : Nat} (h : j ≠ k) : u0N x y (k + 1) j = u0N x y k j := by
  unfold u0N
  by_cases e : edB x y (j : Nat) = false
  · by_cases hj : j < k
    · rw [if_pos ⟨by omega, e⟩, if_pos ⟨hj, e⟩]
    · rw [if_neg (fun h' => by have := h'.1; omega), if_neg (fun h' => hj h'.1)]
  · rw [if_neg (fun h => e h.2), if_neg (fun h => e h.2)]
theorem u0_keep {k : Nat} (h : edB x y (k : Nat) = true) : u0N x y (k + 1) = u0N x y k := by
  funext j
  by_cases e : j = k
  · subst e
    unfold u0N
    rw [if_neg (fun e => by rw [h] at e; exact absurd e.2 (by simp)), if_neg (fun e => absurd e.1 (Nat.lt_irrefl j))]
  · exact u0_far e
theorem p0_eq {c : Nat} (h : c < coN x y) : p0N x y c = l0N x y c := by
  unfold p0N u0N l0N
  by_cases e : edB x y (c : Nat) = true
  · rw [if_pos e, if_neg (fun h => by rw [e] at h; exact absurd h.2 (by simp))]
  · rw [if_neg e, if_pos ⟨h, by simpa using e⟩]
/-- The numbers of the parts behind the walls at the first k gaps: the northern or western corner's part takes the other one's number. -/
def plN (x y : Int) (o k : Nat) : Nat → Nat := lbN (clB o) (c2N x y) (c1N x y) (p0N x y) k
theorem pl_yes {o k : Nat} (h : bt o k = 0) : plN x y o (k + 1) = mgN (plN x y o k) (c2N x y k) (c1N x y k) := by
  show lbN _ _ _ _ (k + 1) = _
  rw [lbN, if_pos (show clB o k = true from decide_eq_true h)]; rfl
theorem pl_no {o k : Nat} (h : bt o k ≠ 0) : plN x y o (k + 1) = plN x y o k := by
  show lbN _ _ _ _ (k + 1) = _
  rw [lbN, if_neg (show ¬ clB o k = true by unfold clB; simpa using h)]; rfl
theorem own0_fin : ∀ w h : Fin 4, cnt (ownB (l0N ((w : Nat) + 1) ((h : Nat) + 1))) (coN ((w : Nat) + 1) ((h : Nat) + 1)) = nD (l0N ((w : Nat) + 1) ((h : Nat) + 1)) (coN ((w : Nat) + 1) ((h : Nat) + 1)) := by decide +kernel
theorem pl_inv (hk : OkZ x y) (o : Nat) : ∀ k, k ≤ gN x y → cnt (ownB (plN x y o k)) (coN x y) = nD (wlbN x y o k) (coN x y) ∧ (∀ i j, i < coN x y → j < coN x y → (plN x y o k i = plN x y o k j ↔ wlbN x y o k i = wlbN x y o k j)) ∧
    (∀ c, plN x y o k (plN x y o k c) = plN x y o k c) ∧ (∀ c, c < coN x y → plN x y o k c < coN x y) ∧ ∀ c, plN x y o k c < 25
  | 0, _ => by
    have h0 := ed_zero hk
    obtain ⟨-, q1, q2, -⟩ := co_pos hk
    have hz : p0N x y 0 = 0 := by rw [p0_eq (by omega)]; unfold l0N; rw [if_pos h0]
    refine ⟨?_, fun i j hi hj => ?_, fun c => ?_, fun c hc => ?_, fun c => ?_⟩
    · show cnt (ownB (p0N x y)) _ = nD (l0N x y) _
      rw [cnt_ext (p := ownB (p0N x y)) (q := ownB (l0N x y)) (fun c hc => by unfold ownB; rw [p0_eq hc])]
      obtain ⟨w, h, rfl, rfl⟩ := fins hk
      exact own0_fin w h
    · show p0N x y i = p0N x y j ↔ l0N x y i = l0N x y j
      rw [p0_eq hi, p0_eq hj]
    · show p0N x y (p0N x y c) = p0N x y c
      have : p0N x y c = c ∨ p0N x y c = 0 := by
        unfold p0N u0N; split
        · exact .inl rfl
        · exact .inr rfl
      rcases this with e | e
      · rw [e, e]
      · rw [e, hz]
    · show p0N x y c < _
      unfold p0N u0N
      split <;> omega
    · show p0N x y c < _
      unfold p0N u0N
      split <;> omega
  | k + 1, hg => by
    obtain ⟨i1, i2, i3, i4, i5⟩ := pl_inv hk o k (by omega)
    obtain ⟨-, -, f3a, f3b⟩ := f3 hk (g := k) (by omega)
    have f3c : c1N x y k < coN x y := by omega
    by_cases hb : bt o k = 0
    · rw [pl_yes hb, wlb_yes hb]
      refine ⟨?_, fun i j hi hj => ?_, idem_merge i3, fun c hc => ?_, fun c => ?_⟩
      · by_cases he : wlbN x y o k (c1N x y k) = wlbN x y o k (c2N x y k)
        · rw [mg_same he, mg_same ((i2 _ _ f3b f3c).2 he.symm)]; exact i1
        · have h1 := (nd_merge f3c f3b).2 he
          have h2 := own_merge (a := c2N x y k) (b := c1N x y k) i3 (i4 _ f3c) (fun e => he ((i2 _ _ f3b f3c).1 e).symm)
          omega
      · rw [mg_iff, mg_iff, i2 i j hi hj, i2 i _ hi f3b, i2 j _ hj f3c, i2 i _ hi f3c, i2 j _ hj f3b]
        constructor
        · rintro (e | e | e)
          · exact .inl e
          · exact .inr (.inr e)
          · exact .inr (.inl e)
        · rintro (e | e | e)
          · exact .inl e
          · exact .inr (.inr e)
          · exact .inr (.inl e)
      · unfold mgN
        split
        · exact i4 _ f3b
        · exact i4 _ hc
      · unfold mgN
        split
        · exact i5 _
        · exact i5 _
    · rw [pl_no hb, wlb_no hb]; exact ⟨i1, i2, i3, i4, i5⟩
theorem pl_lt (hk : OkZ x y) (o : Nat) {k : Nat} (hg : k ≤ gN x y) (c : Nat) : plN x y o k c < 25 := (pl_inv hk o k hg).2.2.2.2 c
theorem pl_own (hk : OkZ x y) (o : Nat) : cnt (ownB (plN x y o (gN x y))) (coN x y) = wpN x y o := (pl_inv hk o (gN x y) (Nat.le_refl _)).1
end
end Go.Proofs.Ytnfnandpcjgmmaa.walS
