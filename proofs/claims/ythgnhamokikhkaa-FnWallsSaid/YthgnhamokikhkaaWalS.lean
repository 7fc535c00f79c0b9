/- Parts of the walls that bear the number of one of their corners: as many corners bear their own number as there are parts. -/
import Derived.Test.YthgnhamokikhkaaWalR
namespace Go.Proofs.Ythgnhamokikhkaa.walS
open gridP gridQ bitP mazeP mazeQ reachP reachM reachN reachD forest perfP walP walR
set_option linter.unusedVariables false

theorem mg_iff {L : Nat → Nat} (a b i j : Nat) : mgN L a b i = mgN L a b j ↔ L i = L j ∨ (L i = L a ∧ L j = L b) ∨ (L i = L b ∧ L j = L a) := by
  unfold mgN
  split <;> split <;> rename_i e1 e2
  · exact ⟨fun _ => .inl (e1.trans e2.symm), fun _ => rfl⟩
  · refine ⟨fun e => .inr (.inr ⟨e1, e.symm⟩), ?_⟩
    rintro (e | ⟨e, e'⟩ | ⟨e, e'⟩)
    · exact absurd (e.symm.trans e1) e2
    · exact absurd e' e2
    · exact e'.symm
  · refine ⟨fun e => .inr (.inl ⟨e, e2⟩), ?_⟩
    rintro (e | ⟨e, e'⟩ | ⟨e, e'⟩)
    · exact absurd (e.trans e2) e1
    · exact e
    · exact absurd e e1
  · refine ⟨.inl, ?_⟩
    rintro (e | ⟨e, e'⟩ | ⟨e, e'⟩)
    · exact e
    · exact absurd e' e2
    · exact absurd e e1
/-- Does a corner bear its own number? -/
def ownB (L : Nat → Nat) (c : Nat) : Bool := L c == c
theorem mg_same {L : Nat → Nat} {a b : Nat} (h : L a = L b) : mgN L a b = L := by
  funext c; unfold mgN; split
  · rename_i e; rw [e, h]
  · rfl
theorem own_merge {L : Nat → Nat} {n a b : Nat} (hi : ∀ c, L (L c) = L c) (hb : L b < n) (h : L a ≠ L b) : cnt (ownB L) n = cnt (ownB (mgN L a b)) n + 1 := by
  refine cnt_del (c := L b) ?_ ?_ hb fun k hk hkb => ?_
  · unfold ownB; rw [hi]; simp
  · unfold ownB mgN; rw [if_pos (hi b)]; simpa using h
  · unfold ownB mgN
    by_cases e : L k = L b
    · rw [if_pos e, Bool.eq_iff_iff]
      simp only [beq_iff_eq]
      refine ⟨fun e' => absurd (e'.symm.trans e) hkb, fun e' => ?_⟩
      have h1 := hi a
      rw [e'] at h1
      exact absurd (e'.trans (h1.symm.trans e)) h
    · rw [if_neg e]
theorem idem_merge {L : Nat → Nat} {a b : Nat} (hi : ∀ c, L (L c) = L c) : ∀ c, mgN L a b (mgN L a b c) = mgN L a b c := by
  intro c
  by_cases e : L c = L b
  · have e1 : mgN L a b c = L a := by unfold mgN; rw [if_pos e]
    rw [e1]
    unfold mgN
    rw [hi]; split <;> rfl
  · have e1 : mgN L a b c = L c := by unfold mgN; rw [if_neg e]
    rw [e1]
    unfold mgN
    rw [hi, if_neg e]

section
variable {x y : Int}
/-- While the first numbers are written. -/
def u0N (x y : Int) (k : Nat) : Nat → Nat := fun c => if c < k ∧ edB x y (c : Nat) = false then c else 0
def p0N (x y : Int) : Nat → Nat := u0N x y (coN x y)
theorem u0_zero : u0N x y 0 = fun _ => 0 := by funext c; unfold u0N; rw [if_neg (fun e => absurd e.1 (Nat.not_lt_zero c))]
theorem u0_at {k : Nat} (h : edB x y (k : Nat) = false) : u0N x y (k + 1) k = k := by unfold u0N; rw [if_pos ⟨Nat.lt_succ_self k, h⟩]
theorem u0_far {k j : Nat} (h : j ≠ k) : u0N x y (k + 1) j = u0N x y k j := by
  unfold u0N
  by_cases e : edB x y (j : Nat) = false
  · by_cases hj : j < k
    · rw [if_pos ⟨by omega, e⟩, if_pos ⟨hj, e⟩]
    · rw [if_neg (fun h' => by have := h'.1; omega), if_neg (fun h' => hj h'.1)]
  · rw [if_neg (fun h => e h.2), if_neg (fun h => e h.2)]
theorem u0_keep {k : Nat} (h : edB x y (k : Nat) = true) : u0N x y (k + 1) = u0N x y k := by
  funext j
  by_cases e : j = k
  · subst e
    unfold u0N
    rw [if_neg (fun e => by rw [h] at e; exact absurd e.2 (by simp)), if_neg (fun e => absurd e.1 (Nat.lt_irrefl j))]
  · exact u0_far e
theorem p0_eq {c : Nat} (h : c < coN x y) : p0N x y c = l0N x y c := by
  unfold p0N u0N l0N
  by_cases e : edB x y (c : Nat) = true
  · rw [if_pos e, if_neg (fun h => by rw [e] at h; exact absurd h.2 (by simp))]
  · rw [if_neg e, if_pos ⟨h, by simpa using e⟩]
/-- The numbers of the parts behind the walls at the first k gaps: the northern or western corner's part takes the other one's number. -/
def plN (x y : Int) (o k : Nat) : Nat → Nat := lbN (clB o) (c2N x y) (c1N x y) (p0N x y) k
theorem pl_yes {o k : Nat} (h : bt o k = 0) : plN x y o (k + 1) = mgN (plN x y o k) (c2N x y k) (c1N x y k) := by
  show lbN _ _ _ _ (k + 1) = _
  rw [lbN, if_pos (show clB o k = true from decide_eq_true h)]; rfl
theorem pl_no {o k : Nat} (h : bt o k ≠ 0) : plN x y o (k + 1) = plN x y o k := by
  show lbN _ _ _ _ (k + 1) = _
  rw [lbN, if_neg (show ¬ clB o k = true by unfold clB; simpa using h)]; rfl
theorem own0_fin : ∀ w h : Fin 4, cnt (ownB (l0N ((w : Nat) + 1) ((h : Nat) + 1))) (coN ((w : Nat) + 1) ((h : Nat) + 1)) = nD (l0N ((w : Nat) + 1) ((h : Nat) + 1)) (coN ((w : Nat) + 1) ((h : Nat) + 1)) := by decide +kernel
theorem pl_inv (hk : OkZ x y) (o : Nat) : ∀ k, k ≤ gN x y → cnt (ownB (plN x y o k)) (coN x y) = nD (wlbN x y o k) (coN x y) ∧ (∀ i j, i < coN x y → j < coN x y → (plN x y o k i = plN x y o k j ↔ wlbN x y o k i = wlbN x y o k j)) ∧
    (∀ c, plN x y o k (plN x y o k c) = plN x y o k c) ∧ (∀ c, c < coN x y → plN x y o k c < coN x y) ∧ ∀ c, plN x y o k c < 25
  | 0, _ => by
    have h0 := ed_zero hk
    obtain ⟨-, q1, q2, -⟩ := co_pos hk
    have hz : p0N x y 0 = 0 := by rw [p0_eq (by omega)]; unfold l0N; rw [if_pos h0]
    refine ⟨?_, fun i j hi hj => ?_, fun c => ?_, fun c hc => ?_, fun c => ?_⟩
    · show cnt (ownB (p0N x y)) _ = nD (l0N x y) _
      rw [cnt_ext (p := ownB (p0N x y)) (q := ownB (l0N x y)) (fun c hc => by unfold ownB; rw [p0_eq hc])]
      obtain ⟨w, h, rfl, rfl⟩ := fins hk
      exact own0_fin w h
    · show p0N x y i = p0N x y j ↔ l0N x y i = l0N x y j
      rw [p0_eq hi, p0_eq hj]
    · show p0N x y (p0N x y c) = p0N x y c
      have : p0N x y c = c ∨ p0N x y c = 0 := by
        unfold p0N u0N; split
        · exact .inl rfl
        · exact .inr rfl
      rcases this with e | e
      · rw [e, e]
      · rw [e, hz]
    · show p0N x y c < _
      unfold p0N u0N
      split <;> omega
    · show p0N x y c < _
      unfold p0N u0N
      split <;> omega
  | k + 1, hg => by
    obtain ⟨i1, i2, i3, i4, i5⟩ := pl_inv hk o k (by omega)
    obtain ⟨-, -, f3a, f3b⟩ := f3 hk (g := k) (by omega)
    have f3c : c1N x y k < coN x y := by omega
    by_cases hb : bt o k = 0
    · rw [pl_yes hb, wlb_yes hb]
      refine ⟨?_, fun i j hi hj => ?_, idem_merge i3, fun c hc => ?_, fun c => ?_⟩
      · by_cases he : wlbN x y o k (c1N x y k) = wlbN x y o k (c2N x y k)
        · rw [mg_same he, mg_same ((i2 _ _ f3b f3c).2 he.symm)]; exact i1
        · have h1 := (nd_merge f3c f3b).2 he
          have h2 := own_merge (a := c2N x y k) (b := c1N x y k) i3 (i4 _ f3c) (fun e => he ((i2 _ _ f3b f3c).1 e).symm)
          omega
      · rw [mg_iff, mg_iff, i2 i j hi hj, i2 i _ hi f3b, i2 j _ hj f3c, i2 i _ hi f3c, i2 j _ hj f3b]
        constructor
        · rintro (e | e | e)
          · exact .inl e
          · exact .inr (.inr e)
          · exact .inr (.inl e)
        · rintro (e | e | e)
          · exact .inl e
          · exact .inr (.inr e)
          · exact .inr (.inl e)
      · unfold mgN
        split
        · exact i4 _ f3b
        · exact i4 _ hc
      · unfold mgN
        split
        · exact i5 _
        · exact i5 _
    · rw [pl_no hb, wlb_no hb]; exact ⟨i1, i2, i3, i4, i5⟩
theorem pl_lt (hk : OkZ x y) (o : Nat) {k : Nat} (hg : k ≤ gN x y) (c : Nat) : plN x y o k c < 25 := (pl_inv hk o k hg).2.2.2.2 c
theorem pl_own (hk : OkZ x y) (o : Nat) : cnt (ownB (plN x y o (gN x y))) (coN x y) = wpN x y o := (pl_inv hk o (gN x y) (Nat.le_refl _)).1
end
end Go.Proofs.Ythgnhamokikhkaa.walS
