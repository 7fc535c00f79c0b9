/- Walls of a maze, without the program: a maze has as many parts of walls as it has loops, and one. -/
import Derived.Test.YthgnhamokikhkaaForest
namespace Go.Proofs.Ythgnhamokikhkaa.walP
open gridP gridQ bitP mazeP mazeQ reachP reachM reachN forest
set_option linter.unusedVariables false

/-! ### how many different labels there are -/
def frB (L : Nat → Nat) (k : Nat) : Bool := (List.range k).all fun i => L i != L k
theorem fr_iff (L : Nat → Nat) (k : Nat) : frB L k = true ↔ ∀ i, i < k → L i ≠ L k := by
  unfold frB
  rw [List.all_eq_true]
  exact ⟨fun h i hi => by simpa using h i (List.mem_range.2 hi), fun h i hi => by simpa using h i (List.mem_range.1 hi)⟩
/-- How many different labels the first n places have. -/
def nD (L : Nat → Nat) (n : Nat) : Nat := cnt (frB L) n
theorem nd_same {L L' : Nat → Nat} {n : Nat} (h : ∀ i j, L i = L j ↔ L' i = L' j) : nD L n = nD L' n := by
  unfold nD
  refine cnt_ext fun k _ => ?_
  rw [Bool.eq_iff_iff, fr_iff, fr_iff]
  exact forall_congr' fun i => forall_congr' fun _ => not_congr (h i k)
theorem nd_pos (L : Nat → Nat) {n : Nat} (h : 0 < n) : 1 ≤ nD L n := by
  unfold nD
  induction n with
  | zero => omega
  | succ n ih =>
    unfold cnt
    rcases Nat.eq_zero_or_pos n with e | e
    · subst e
      have : frB L 0 = true := (fr_iff L 0).2 fun i hi => absurd hi (by omega)
      rw [this]; simp [cnt]
    · have := ih e; omega
theorem nd_key {L L' : Nat → Nat} {n c d : Nat} (hcd : c < d) (hd : d < n) (hne : L c ≠ L d) (hc : ∀ j, L j = L c → c ≤ j) (hd' : ∀ j, L j = L d → d ≤ j)
    (hR : ∀ i j, L' i = L' j ↔ L i = L j ∨ (L i = L c ∧ L j = L d) ∨ (L i = L d ∧ L j = L c)) : nD L n = nD L' n + 1 := by
  unfold nD
  refine cnt_del (c := d) ?_ ?_ hd fun k hk hkd => ?_
  · exact (fr_iff L d).2 fun i hi e => by have := hd' i e; omega
  · rw [← Bool.not_eq_true, fr_iff]
    exact fun hh => hh c hcd ((hR c d).2 (.inr (.inl ⟨rfl, rfl⟩)))
  · rw [Bool.eq_iff_iff, fr_iff, fr_iff]
    refine ⟨fun hh i hi e => ?_, fun hh i hi e => hh i hi ((hR i k).2 (.inl e))⟩
    rcases (hR i k).1 e with h | ⟨h1, h2⟩ | ⟨h1, h2⟩
    · exact hh i hi h
    · have := hd' k h2
      exact hh d (by omega) h2.symm
    · have e1 := hd' i h1
      have e2 := hc k h2
      exact hh c (by omega) h2.symm
theorem least_label (L : Nat → Nat) (a : Nat) : ∃ c, c ≤ a ∧ L c = L a ∧ ∀ j, L j = L c → c ≤ j := by
  have key : ∀ n, ∀ c, c ≤ n → c ≤ a → L c = L a → ∃ c, c ≤ a ∧ L c = L a ∧ ∀ j, L j = L c → c ≤ j := by
    intro n
    induction n with
    | zero => intro c hc h1 h2; exact ⟨c, h1, h2, fun j _ => by omega⟩
    | succ n ih =>
      intro c hc h1 h2
      by_cases hl : ∃ j, j < c ∧ L j = L c
      · obtain ⟨j, hj, e⟩ := hl
        exact ih j (by omega) (by omega) (e.trans h2)
      · refine ⟨c, h1, h2, fun j hj => ?_⟩
        rcases Nat.lt_or_ge j c with h | h
        · exact absurd ⟨j, h, hj⟩ hl
        · exact h
  exact key a a (Nat.le_refl _) (Nat.le_refl _) rfl
/-- Two labels become one. -/
def mgN (L : Nat → Nat) (a b : Nat) : Nat → Nat := fun c => if L c = L b then L a else L c
theorem nd_merge {L : Nat → Nat} {n a b : Nat} (ha : a < n) (hb : b < n) : (L a = L b → nD (mgN L a b) n = nD L n) ∧ (L a ≠ L b → nD L n = nD (mgN L a b) n + 1) := by
  refine ⟨fun h => ?_, fun h => ?_⟩
  · have : mgN L a b = L := by
      funext c; unfold mgN; split
      · rename_i e; rw [e, h]
      · rfl
    rw [this]
  · obtain ⟨c, c1, c2, c3⟩ := least_label L a
    obtain ⟨d, d1, d2, d3⟩ := least_label L b
    have hR : ∀ i j, mgN L a b i = mgN L a b j ↔ L i = L j ∨ (L i = L a ∧ L j = L b) ∨ (L i = L b ∧ L j = L a) := by
      intro i j
      unfold mgN
      split <;> split <;> rename_i e1 e2
      · exact ⟨fun _ => .inl (e1.trans e2.symm), fun _ => rfl⟩
      · refine ⟨fun e => .inr (.inr ⟨e1, e.symm⟩), ?_⟩
        rintro (e | ⟨e, e'⟩ | ⟨e, e'⟩)
        · exact absurd (e.symm.trans e1) e2
        · exact absurd e' e2
        · exact e'.symm
      · refine ⟨fun e => .inr (.inl ⟨e, e2⟩), ?_⟩
        rintro (e | ⟨e, e'⟩ | ⟨e, e'⟩)
        · exact absurd (e.trans e2) e1
        · exact e
        · exact absurd e e1
      · refine ⟨.inl, ?_⟩
        rintro (e | ⟨e, e'⟩ | ⟨e, e'⟩)
        · exact e
        · exact absurd e' e2
        · exact absurd e e1
    have hne : L c ≠ L d := by rw [c2, d2]; exact h
    rcases Nat.lt_trichotomy c d with hlt | he | hgt
    · exact nd_key hlt (by omega) hne c3 d3 (by rw [c2, d2]; exact hR)
    · exact absurd (by rw [he]) hne
    · refine nd_key hgt (by omega) (fun e => hne e.symm) d3 c3 (fun i j => ?_)
      rw [c2, d2, hR]
      constructor
      · rintro (e | e | e)
        · exact .inl e
        · exact .inr (.inr e)
        · exact .inr (.inl e)
      · rintro (e | e | e)
        · exact .inl e
        · exact .inr (.inr e)
        · exact .inr (.inl e)

/-- The labels behind the first k pieces of a kind. -/
def lbN (S : Nat → Bool) (A B : Nat → Nat) (L : Nat → Nat) : Nat → Nat → Nat
  | 0 => L
  | k + 1 => if S k = true then mgN (lbN S A B L k) (A k) (B k) else lbN S A B L k
theorem lb_inv {S : Nat → Bool} {A B L : Nat → Nat} {f : Nat → Bool} (h0 : ∀ i j, L i = L j → f i = f j) : ∀ k, (∀ g, g < k → S g = true → f (A g) = f (B g)) → ∀ i j, lbN S A B L k i = lbN S A B L k j → f i = f j
  | 0, _, i, j, h => h0 i j h
  | k + 1, hs, i, j, h => by
    have ih := lb_inv h0 k (fun g hg => hs g (by omega))
    unfold lbN at h
    split at h
    · rename_i hk
      have hab := hs k (by omega) hk
      unfold mgN at h
      split at h <;> split at h <;> rename_i e1 e2
      · exact ih i j (e1.trans e2.symm)
      · rw [ih i _ e1, ← hab]; exact ih _ j h
      · rw [ih j _ e2, ← hab]; exact ih i _ h
      · exact ih i j h
    · exact ih i j h

section
variable {x y : Int}
/-- The corners of a gap. -/
def c1Z (x y g : Int) : Int := if eaZ x y g < 0 then -1 else ebZ x y g / x * (x + 1) + ebZ x y g % x
def c2Z (x y g : Int) : Int := if eaZ x y g < 0 then -1 else if g < (x - 1) * y then c1Z x y g + x + 1 else c1Z x y g + 1
/-- How many corners there are. -/
def cosZ (x y : Int) : Int := if 1 ≤ x ∧ x ≤ 4 ∧ 1 ≤ y ∧ y ≤ 4 then (x + 1) * (y + 1) else 0
def edB (x y c : Int) : Bool := decide (0 ≤ c ∧ c ≤ cosZ x y - 1) && (c % (x + 1) == 0 || c % (x + 1) == x || c / (x + 1) == 0 || c / (x + 1) == y)
def c1N (x y : Int) (g : Nat) : Nat := (c1Z x y g).toNat
def c2N (x y : Int) (g : Nat) : Nat := (c2Z x y g).toNat
def coN (x y : Int) : Nat := (cosZ x y).toNat
/-- The corners above which a step leads, right of it. -/
def dgB (x y : Int) (g c : Nat) : Bool := decide (¬ (g : Int) < (x - 1) * y) && decide ((c : Int) / (x + 1) = ebZ x y g / x) && decide (ebZ x y g % x < (c : Int) % (x + 1))
/-- The gaps right of a cell. -/
def ryB (x y : Int) (u g : Nat) : Bool := decide ((g : Int) < (x - 1) * y) && decide (ebZ x y g / x = (u : Int) / x) && decide ((u : Int) % x < ebZ x y g % x)
/-- The corners at the right edge, below a cell. -/
def ryE (x y : Int) (u c : Nat) : Bool := decide ((c : Int) % (x + 1) = x) && decide ((u : Int) / x < (c : Int) / (x + 1))
theorem f1_fin : ∀ w h : Fin 4, ∀ g g' : Fin 24, (gpsZ ((w : Nat) + 1) ((h : Nat) + 1) ≤ (g : Nat)) ∨ (gpsZ ((w : Nat) + 1) ((h : Nat) + 1) ≤ (g' : Nat)) ∨
    (xor (xor (dgB ((w : Nat) + 1) ((h : Nat) + 1) g (c1N ((w : Nat) + 1) ((h : Nat) + 1) g')) (dgB ((w : Nat) + 1) ((h : Nat) + 1) g (c2N ((w : Nat) + 1) ((h : Nat) + 1) g'))) (decide (g = g')) =
      xor (ryB ((w : Nat) + 1) ((h : Nat) + 1) (aN ((w : Nat) + 1) ((h : Nat) + 1) g) g') (ryB ((w : Nat) + 1) ((h : Nat) + 1) (bN ((w : Nat) + 1) ((h : Nat) + 1) g) g')) := by decide +kernel
theorem f2_fin : ∀ w h : Fin 4, ∀ g : Fin 24, ∀ c : Fin 25, (gpsZ ((w : Nat) + 1) ((h : Nat) + 1) ≤ (g : Nat)) ∨ edB ((w : Nat) + 1) ((h : Nat) + 1) (c : Nat) = false ∨
    (dgB ((w : Nat) + 1) ((h : Nat) + 1) g c = xor (ryE ((w : Nat) + 1) ((h : Nat) + 1) (aN ((w : Nat) + 1) ((h : Nat) + 1) g) c) (ryE ((w : Nat) + 1) ((h : Nat) + 1) (bN ((w : Nat) + 1) ((h : Nat) + 1) g) c)) := by decide +kernel
theorem f3_fin : ∀ w h : Fin 4, ∀ g : Fin 24, (gpsZ ((w : Nat) + 1) ((h : Nat) + 1) ≤ (g : Nat)) ∨ (0 ≤ c1Z ((w : Nat) + 1) ((h : Nat) + 1) (g : Nat) ∧ c1Z ((w : Nat) + 1) ((h : Nat) + 1) (g : Nat) < c2Z ((w : Nat) + 1) ((h : Nat) + 1) (g : Nat) ∧ c2Z ((w : Nat) + 1) ((h : Nat) + 1) (g : Nat) < cosZ ((w : Nat) + 1) ((h : Nat) + 1)) := by decide +kernel
/-- The labels at the start: all corners at the edge have one. -/
def l0N (x y : Int) (c : Nat) : Nat := if edB x y c = true then 0 else c
theorem nd0_fin : ∀ w h : Fin 4, nD (l0N ((w : Nat) + 1) ((h : Nat) + 1)) (coN ((w : Nat) + 1) ((h : Nat) + 1)) = (w : Nat) * (h : Nat) + 1 ∧ edB ((w : Nat) + 1) ((h : Nat) + 1) 0 = true ∧ coN ((w : Nat) + 1) ((h : Nat) + 1) = ((w : Nat) + 2) * ((h : Nat) + 2) := by decide +kernel
theorem gn_fin : ∀ w h : Fin 4, gN ((w : Nat) + 1) ((h : Nat) + 1) + 1 = cN ((w : Nat) + 1) ((h : Nat) + 1) + ((((w : Nat) : Int) + 1 - 1) * (((h : Nat) : Int) + 1 - 1)).toNat := by decide +kernel
theorem fins (hk : OkZ x y) : ∃ w h : Fin 4, x = (w : Nat) + 1 ∧ y = (h : Nat) + 1 := by
  obtain ⟨h1, h2, h3, h4⟩ := hk
  exact ⟨⟨(x - 1).toNat, by omega⟩, ⟨(y - 1).toNat, by omega⟩, by simp; omega, by simp; omega⟩
theorem f1 (hk : OkZ x y) {g g' : Nat} (hg : g < gN x y) (hg' : g' < gN x y) : xor (xor (dgB x y g (c1N x y g')) (dgB x y g (c2N x y g'))) (decide (g = g')) = xor (ryB x y (aN x y g) g') (ryB x y (bN x y g) g') := by
  obtain ⟨b1, b2⟩ := gps_bd hk.1 hk.2.1 hk.2.2.1 hk.2.2.2
  unfold gN at hg hg'
  obtain ⟨w, h, rfl, rfl⟩ := fins hk
  have := f1_fin w h ⟨g, by omega⟩ ⟨g', by omega⟩
  rcases this with e | e | e
  · simp only at e; omega
  · simp only at e; omega
  · simpa using e
theorem f2 (hk : OkZ x y) {g c : Nat} (hg : g < gN x y) (hc : edB x y c = true) : dgB x y g c = xor (ryE x y (aN x y g) c) (ryE x y (bN x y g) c) := by
  obtain ⟨b1, b2⟩ := gps_bd hk.1 hk.2.1 hk.2.2.1 hk.2.2.2
  have hc25 : c < 25 := by
    unfold edB at hc
    rw [Bool.and_eq_true] at hc
    have h1 := of_decide_eq_true hc.1
    unfold cosZ at h1
    rw [if_pos (show 1 ≤ x ∧ x ≤ 4 ∧ 1 ≤ y ∧ y ≤ 4 from hk)] at h1
    have : (x + 1) * (y + 1) ≤ 5 * 5 := Int.mul_le_mul (by have := hk.2.1; omega) (by have := hk.2.2.2; omega) (by have := hk.2.2.1; omega) (by decide)
    omega
  unfold gN at hg
  obtain ⟨w, h, rfl, rfl⟩ := fins hk
  have := f2_fin w h ⟨g, by omega⟩ ⟨c, hc25⟩
  rcases this with e | e | e
  · simp only at e; omega
  · simp only at e; rw [e] at hc; cases hc
  · exact e
theorem f3 (hk : OkZ x y) {g : Nat} (hg : g < gN x y) : c1Z x y g = (c1N x y g : Int) ∧ c2Z x y g = (c2N x y g : Int) ∧ c1N x y g < c2N x y g ∧ c2N x y g < coN x y := by
  obtain ⟨b1, b2⟩ := gps_bd hk.1 hk.2.1 hk.2.2.1 hk.2.2.2
  unfold gN at hg
  unfold c1N c2N coN
  obtain ⟨w, h, rfl, rfl⟩ := fins hk
  have := f3_fin w h ⟨g, by omega⟩
  rcases this with e | e
  · simp only at e; omega
  · simp only at e; omega
theorem ed_zero (hk : OkZ x y) : edB x y (0 : Nat) = true := by
  obtain ⟨w, h, rfl, rfl⟩ := fins hk
  exact (nd0_fin w h).2.1
theorem l0_inv {f : Nat → Bool} (hk : OkZ x y) (hf : ∀ c : Nat, edB x y c = true → f c = false) (i j : Nat) (h : l0N x y i = l0N x y j) : f i = f j := by
  have h0 := ed_zero hk
  unfold l0N at h
  split at h <;> split at h <;> rename_i e1 e2
  · rw [hf i e1, hf j e2]
  · subst h; exact absurd h0 e2
  · subst h; exact absurd h0 e1
  · rw [h]

/-- A closed way through a gap parts the gap's corners. -/
theorem jordan {o k : Nat} (hk : OkZ x y) (ho : o < 2 ^ gN x y) (hg : k < gN x y) (hb : bt o k = 0) (hc : Cn x y o (aN x y k) (bN x y k)) :
    ∃ f : Nat → Bool, (∀ c : Nat, edB x y c = true → f c = false) ∧ (∀ g, g < gN x y → bt o g = 0 → g ≠ k → f (c1N x y g) = f (c2N x y g)) ∧ f (c1N x y k) ≠ f (c2N x y k) := by
  have key : ∃ f : Nat → Bool, (∀ c : Nat, edB x y c = true → f c = xor (ryE x y (aN x y k) c) (ryE x y (bN x y k) c)) ∧ ∀ g, g < gN x y → bt o g = 0 → xor (f (c1N x y g)) (f (c2N x y g)) = xor (ryB x y (aN x y k) g) (ryB x y (bN x y k) g) := by
    refine cn_ind (E := fun u v => ∃ f : Nat → Bool, (∀ c : Nat, edB x y c = true → f c = xor (ryE x y u c) (ryE x y v c)) ∧ ∀ g, g < gN x y → bt o g = 0 → xor (f (c1N x y g)) (f (c2N x y g)) = xor (ryB x y u g) (ryB x y v g)) (okm hk ho) (fun u => ⟨fun _ => false, fun c _ => by simp, fun g _ _ => by simp⟩) ?_ ?_ ?_ hc
    · rintro u v ⟨f, h1, h2⟩
      exact ⟨f, fun c h => by rw [h1 c h, Bool.xor_comm], fun g h h' => by rw [h2 g h h', Bool.xor_comm]⟩
    · rintro u v t ⟨f, h1, h2⟩ ⟨f', h1', h2'⟩
      refine ⟨fun c => xor (f c) (f' c), fun c h => ?_, fun g h h' => ?_⟩
      · simp only; rw [h1 c h, h1' c h]
        cases ryE x y u c <;> cases ryE x y v c <;> cases ryE x y t c <;> rfl
      · simp only
        have e1 := h2 g h h'
        have e2 := h2' g h h'
        revert e1 e2
        cases f (c1N x y g) <;> cases f (c2N x y g) <;> cases f' (c1N x y g) <;> cases f' (c2N x y g) <;> cases ryB x y u g <;> cases ryB x y v g <;> cases ryB x y t g <;> decide
    · intro g hg' hb'
      refine ⟨dgB x y g, fun c h => f2 hk hg' h, fun g' h h' => ?_⟩
      have hne : g ≠ g' := fun e => by rw [e] at hb'; omega
      have := f1 hk hg' h
      rw [decide_eq_false hne, Bool.xor_false] at this
      exact this
  obtain ⟨f, h1, h2⟩ := key
  refine ⟨fun c => xor (f c) (dgB x y k c), fun c h => ?_, fun g h h' hne => ?_, ?_⟩
  · simp only; rw [h1 c h, f2 hk hg h, Bool.xor_self]
  · simp only
    have e1 := h2 g h h'
    have e2 := f1 hk hg h
    rw [decide_eq_false (fun e => hne e.symm), Bool.xor_false] at e2
    rw [← e1] at e2
    revert e2
    cases f (c1N x y g) <;> cases f (c2N x y g) <;> cases dgB x y k (c1N x y g) <;> cases dgB x y k (c2N x y g) <;> decide
  · simp only
    have e1 := h2 k hg hb
    have e2 := f1 hk hg hg
    rw [decide_eq_true rfl] at e2
    rw [← e1] at e2
    revert e2
    cases f (c1N x y k) <;> cases f (c2N x y k) <;> cases dgB x y k (c1N x y k) <;> cases dgB x y k (c2N x y k) <;> decide

/-! ### the parts of the walls -/
def clB (o g : Nat) : Bool := decide (bt o g = 0)
def opB (o g : Nat) : Bool := decide (bt o g = 1)
/-- The labels behind the walls at the first k gaps. -/
def wlbN (x y : Int) (o k : Nat) : Nat → Nat := lbN (clB o) (c1N x y) (c2N x y) (l0N x y) k
/-- The number of parts of the walls. -/
def wpN (x y : Int) (o : Nat) : Nat := nD (wlbN x y o (gN x y)) (coN x y)
def wrbN (x y : Int) (o k : Nat) : Nat → Nat := lbN (opB o) (c1N x y) (c2N x y) (wlbN x y o (gN x y)) k
theorem nd_le {L : Nat → Nat} {n a b : Nat} (ha : a < n) (hb : b < n) : nD (mgN L a b) n ≤ nD L n := by
  by_cases h : L a = L b
  · rw [(nd_merge ha hb).1 h]; exact Nat.le_refl _
  · have := (nd_merge ha hb).2 h; omega
theorem chain1 {o : Nat} (hk : OkZ x y) (ho : o < 2 ^ gN x y) : ∀ j k, k + j = gN x y → ∃ o', o' < 2 ^ gN x y ∧ (∀ g, g < gN x y → bt o' g = if g < k then bt o g else 1) ∧
    gN x y + pcN o k + pt x y o' + wpN x y o ≤ k + pcN o (gN x y) + pt x y o + nD (wlbN x y o k) (coN x y)
  | 0, k, h => by
    obtain rfl : k = gN x y := by omega
    exact ⟨o, ho, fun g hg => by rw [if_pos hg], by unfold wpN; omega⟩
  | j + 1, k, h => by
    have hkg : k < gN x y := by omega
    obtain ⟨o', h1, h2, h3⟩ := chain1 hk ho j (k + 1) (by omega)
    have hp : pcN o (k + 1) = pcN o k + bt o k := rfl
    obtain ⟨-, -, hc1, hc2⟩ := f3 hk hkg
    have hb2 := bt_le o k
    by_cases hb : bt o k = 0
    · have hb' : bt o' k = 0 := by rw [h2 k hkg, if_pos (by omega), hb]
      obtain ⟨p1, p2⟩ := pt_add hk h1 hkg hb'
      have hw : wlbN x y o (k + 1) = mgN (wlbN x y o k) (c1N x y k) (c2N x y k) := by
        unfold wlbN; rw [lbN, if_pos (show clB o k = true from decide_eq_true hb)]
      refine ⟨o' + 2 ^ k, add_lt h1 hkg hb', fun g hg => ?_, ?_⟩
      · rw [bt_add hb', h2 g hg]
        by_cases e : g = k
        · rw [if_pos e, if_neg (by omega)]
        · rw [if_neg e]
          by_cases e' : g < k
          · rw [if_pos (by omega), if_pos e']
          · rw [if_neg (by omega), if_neg e']
      · rw [hw] at h3
        by_cases hc : Cn x y o' (aN x y k) (bN x y k)
        · obtain ⟨f, q1, q2, q3⟩ := jordan hk h1 hkg hb' hc
          have hne : wlbN x y o k (c1N x y k) ≠ wlbN x y o k (c2N x y k) := fun e => q3 (lb_inv (S := clB o) (l0_inv hk q1) k (fun g hg hs => q2 g (by omega) (by rw [h2 g (by omega), if_pos (by omega)]; exact of_decide_eq_true hs) (by omega)) _ _ e)
          have := (nd_merge (show c1N x y k < coN x y by omega) hc2).2 hne
          have := p1 hc
          omega
        · have := nd_le (L := wlbN x y o k) (show c1N x y k < coN x y by omega) hc2
          have := p2 hc
          omega
    · have hb1 : bt o k = 1 := by omega
      have hw : wlbN x y o (k + 1) = wlbN x y o k := by
        unfold wlbN; rw [lbN, if_neg (by unfold clB; rw [decide_eq_true_iff]; omega)]
      refine ⟨o', h1, fun g hg => ?_, by rw [hw] at h3; omega⟩
      rw [h2 g hg]
      by_cases e : g < k
      · rw [if_pos (by omega), if_pos e]
      · rw [if_neg e]
        by_cases e' : g = k
        · rw [if_pos (by omega), e', hb1]
        · rw [if_neg (by omega)]
theorem chain2 {o : Nat} (hk : OkZ x y) (ho : o < 2 ^ gN x y) : ∀ j k, k + j = gN x y → ∃ o', o' < 2 ^ gN x y ∧ (∀ g, g < gN x y → bt o' g = if g < k then 0 else bt o g) ∧
    pcN o (gN x y) + pt x y o' + nD (wrbN x y o (gN x y)) (coN x y) ≤ pcN o k + cN x y + nD (wrbN x y o k) (coN x y)
  | 0, k, h => by
    obtain rfl : k = gN x y := by omega
    refine ⟨0, Nat.pow_pos (by decide), fun g hg => by rw [if_pos hg]; simp [bt], ?_⟩
    rw [pt_none hk]; omega
  | j + 1, k, h => by
    have hkg : k < gN x y := by omega
    obtain ⟨o', h1, h2, h3⟩ := chain2 hk ho j (k + 1) (by omega)
    have hp : pcN o (k + 1) = pcN o k + bt o k := rfl
    obtain ⟨-, -, hc1, hc2⟩ := f3 hk hkg
    have hb2 := bt_le o k
    by_cases hb : bt o k = 1
    · have hb' : bt o' k = 0 := by rw [h2 k hkg, if_pos (by omega)]
      obtain ⟨p1, p2⟩ := pt_add hk h1 hkg hb'
      have hw : wrbN x y o (k + 1) = mgN (wrbN x y o k) (c1N x y k) (c2N x y k) := by
        unfold wrbN; rw [lbN, if_pos (show opB o k = true from decide_eq_true hb)]
      refine ⟨o' + 2 ^ k, add_lt h1 hkg hb', fun g hg => ?_, ?_⟩
      · rw [bt_add hb', h2 g hg]
        by_cases e : g = k
        · rw [if_pos e, if_neg (by omega), e, hb]
        · rw [if_neg e]
          by_cases e' : g < k
          · rw [if_pos (by omega), if_pos e']
          · rw [if_neg (by omega), if_neg e']
      · rw [hw] at h3
        by_cases hc : Cn x y o' (aN x y k) (bN x y k)
        · obtain ⟨f, q1, q2, q3⟩ := jordan hk h1 hkg hb' hc
          have hne : wrbN x y o k (c1N x y k) ≠ wrbN x y o k (c2N x y k) := fun e => q3 (lb_inv (S := opB o) (lb_inv (S := clB o) (l0_inv hk q1) (gN x y) (fun g hg hs => by
              have hs' : bt o g = 0 := of_decide_eq_true hs
              exact q2 g hg (by rw [h2 g hg]; split <;> omega) (fun e => by rw [e] at hs'; omega))) k (fun g hg hs => q2 g (by omega) (by rw [h2 g (by omega), if_pos (by omega)]) (by omega)) _ _ e)
          have := (nd_merge (show c1N x y k < coN x y by omega) hc2).2 hne
          have := p1 hc
          omega
        · have := nd_le (L := wrbN x y o k) (show c1N x y k < coN x y by omega) hc2
          have := p2 hc
          omega
    · have hb1 : bt o k = 0 := by omega
      have hw : wrbN x y o (k + 1) = wrbN x y o k := by
        unfold wrbN; rw [lbN, if_neg (by unfold opB; rw [decide_eq_true_iff]; omega)]
      refine ⟨o', h1, fun g hg => ?_, by rw [hw] at h3; omega⟩
      rw [h2 g hg]
      by_cases e : g < k
      · rw [if_pos (by omega), if_pos e]
      · rw [if_neg e]
        by_cases e' : g = k
        · rw [if_pos (by omega), e', hb1]
        · rw [if_neg (by omega)]
/-- Walls are the other side of ways. -/
theorem walls {o : Nat} (hk : OkZ x y) (ho : o < 2 ^ gN x y) : (wpN x y o : Int) = lp x y o + 1 := by
  obtain ⟨o1, a1, a2, a3⟩ := chain1 hk ho (gN x y) 0 (by omega)
  obtain ⟨o2, b1, b2, b3⟩ := chain2 hk ho (gN x y) 0 (by omega)
  have e2 : pt x y o2 = pt x y o := pt_same fun u v => ⟨cn_mono (okm hk b1) (okm hk ho) (fun g hg hb => by rw [b2 g hg, if_neg (by omega)] at hb; exact hb), cn_mono (okm hk ho) (okm hk b1) (fun g hg hb => by rw [b2 g hg, if_neg (by omega)]; exact hb)⟩
  have hp0 : pcN o 0 = 0 := rfl
  have hw0 : nD (wrbN x y o 0) (coN x y) = wpN x y o := rfl
  obtain ⟨n0, -, n2⟩ : nD (l0N x y) (coN x y) = ((x - 1) * (y - 1)).toNat + 1 ∧ True ∧ 0 < coN x y ∧ gN x y + 1 = cN x y + ((x - 1) * (y - 1)).toNat := by
    obtain ⟨w, h, rfl, rfl⟩ := fins hk
    have := nd0_fin w h
    refine ⟨?_, trivial, ?_, ?_⟩
    · rw [this.1]
      have : ((w : Nat) : Int) + 1 - 1 = (w : Nat) := by omega
      rw [this]
      have : ((h : Nat) : Int) + 1 - 1 = (h : Nat) := by omega
      rw [this]
      norm_cast
    · rw [this.2.2]; exact Nat.mul_pos (by omega) (by omega)
    · exact gn_fin w h
  have hl0 : nD (wlbN x y o 0) (coN x y) = nD (l0N x y) (coN x y) := rfl
  have hv := nd_pos (wrbN x y o (gN x y)) n2.1
  have hpt : 1 ≤ pt x y o1 := by
    unfold pt; rw [cp_cnt]
    have hN : 0 < cN x y := by
      unfold cN
      have := Int.mul_pos (show 0 < x by have := hk.1; omega) (show 0 < y by have := hk.2.2.1; omega)
      omega
    have hone : ∀ n, 0 < n → n ≤ cN x y → 1 ≤ cnt (isLeast (stN x y o1) (cN x y)) n := by
      intro n
      induction n with
      | zero => omega
      | succ n ih =>
        intro _ hn
        unfold cnt
        rcases Nat.eq_zero_or_pos n with e | e
        · subst e
          rw [(least_iff hN).2 fun j hj => absurd hj (by omega)]; simp [cnt]
        · have := ih e (by omega); omega
    exact hone _ hN (Nat.le_refl _)
  unfold lp
  omega
end
end Go.Proofs.Ythgnhamokikhkaa.walP
