/- Distances in mazes, without the program: they are the same both ways, have the parity of the grid, and part the cells. -/
import Derived.Test.YtomjfcmaoeoigaaReachP
import Derived.Test.YtomjfcmaoeoigaaMazeQ
namespace Go.Proofs.Ytomjfcmaoeoigaa.reachM
open gridP gridQ bitP mazeP mazeQ reachP

/-- The cell behind a passage. -/
def stN (x y z : Int) (u q : Nat) : Int := stZ x y z u q
/-- How many cells a grid has. -/
def cN (x y : Int) : Nat := (x * y).toNat
theorem stN_lt {x y z : Int} (u q v : Nat) (h : stN x y z u q = (v : Int)) : v < cN x y := by
  unfold stN stZ at h
  split at h
  · have hn : ¬ nbZ x y u q < 0 := by omega
    obtain ⟨_, _, _, _, h1⟩ := nb_some hn
    unfold cN; omega
  · omega
theorem stN_back {x y z : Int} {u q v : Nat} (_hq : q < 4) (h : stN x y z u q = (v : Int)) : ∃ q', q' < 4 ∧ stN x y z v q' = (u : Int) := by
  refine ⟨(q + 2) % 4, Nat.mod_lt _ (by decide), ?_⟩
  have := step_back (w := x) (h := y) (o := z) (k := u) (d := q) (by unfold stN at h; omega)
  unfold stN at h ⊢
  rw [h] at this
  rw [show (((q + 2) % 4 : Nat) : Int) = ((q : Int) + 2) % 4 from by omega]
  exact this

section
variable {st : Nat → Nat → Int} {N a : Nat}
theorem wk_head {b q n v : Nat} (hq : q < 4) (hs : st a q = (b : Int)) (h : Wk st b n v) : Wk st a (n + 1) v := by
  induction h with
  | zero => exact .step .zero hq hs
  | step _ hq' hs' ih => exact .step ih hq' hs'
theorem wk_rev (hb : ∀ u q v : Nat, q < 4 → st u q = (v : Int) → ∃ q', q' < 4 ∧ st v q' = (u : Int)) {n v : Nat} (h : Wk st a n v) : Wk st v n a := by
  induction h with
  | zero => exact .zero
  | step _ hq hs ih =>
    obtain ⟨q', hq', hs'⟩ := hb _ _ _ hq hs
    exact wk_head hq' hs' ih
theorem wk_trans {b n m v : Nat} (h1 : Wk st a n b) (h2 : Wk st b m v) : Wk st a (n + m) v := by
  induction h2 with
  | zero => exact h1
  | step _ hq hs ih => exact .step ih hq hs

/-- A search comes to an end. -/
theorem inv_runs (hst : ∀ u q v : Nat, st u q = (v : Int) → v < N) : ∀ (fuel : Nat) (D : List Int) (L : List Nat) (k q : Nat), Inv st N a D L k q → k ≤ L.length → q ≤ 4 → 5 * (N + 1 - k) ≤ fuel + q → ∃ D' L' k', Inv st N a D' L' k' 0 ∧ L'.length ≤ k'
  | 0, D, L, k, q, h, hk, hq, hf => by have := h.le; omega
  | fuel + 1, D, L, k, q, h, hk, hq, hf => by
    rcases Nat.lt_or_ge k L.length with hlt | hge
    · have hu : L[k]? = some L[k] := List.getElem?_eq_getElem hlt
      by_cases h4 : q = 4
      · subst h4
        exact inv_runs hst fuel D L (k + 1) 0 (inv_next h hu) (by omega) (by omega) (by omega)
      · by_cases hneg : st L[k] q < 0
        · exact inv_runs hst fuel D L k (q + 1) (inv_none h hu hneg) hk (by omega) (by omega)
        · obtain ⟨v, hv⟩ := Int.eq_ofNat_of_zero_le (show 0 ≤ st L[k] q by omega)
          by_cases hs : 0 ≤ D.getD v (-1)
          · exact inv_runs hst fuel D L k (q + 1) (inv_seen h hu hv hs) hk (by omega) (by omega)
          · exact inv_runs hst fuel _ _ k (q + 1) (inv_new h (by omega) hu hv (hst _ _ _ hv) (by omega)) (by simp; omega) (by omega) (by omega)
    · refine ⟨D, L, k, ⟨h.len, h.ins, h.nod, h.head, h.low, h.wk, h.zero, h.mono, h.near, h.done, fun _ _ _ _ hq' => by omega⟩, hge⟩
theorem inv_exists (ha : a < N) (hst : ∀ u q v : Nat, st u q = (v : Int) → v < N) : ∃ D L k, Inv st N a D L k 0 ∧ L.length ≤ k :=
  inv_runs hst (5 * (N + 1)) _ _ 0 0 (inv_start ha) (by simp) (by omega) (by omega)
/-- What the distance says. -/
theorem dZ_spec (ha : a < N) (hst : ∀ u q v : Nat, st u q = (v : Int) → v < N) (v : Nat) :
    (dZ st N a v = -1 ∧ ∀ n, ¬ Wk st a n v) ∨ ∃ n : Nat, dZ st N a v = (n : Int) ∧ n < N ∧ Wk st a n v ∧ ∀ m, Wk st a m v → n ≤ m := by
  by_cases hex : ∃ n, Wk st a n v
  · obtain ⟨D, L, k, h, hk⟩ := inv_exists ha hst
    have he := inv_end h hk ha hst v
    -- a walk ends at a cell of the list
    have hall : ∀ n x, Wk st a n x → x ∈ L ∧ D.getD x (-1) ≤ (n : Int) := fun n x hx => by
      induction hx with
      | zero => exact ⟨List.mem_of_getElem? h.head, by rw [h.zero]; simp⟩
      | @step n u q' v _ hq' hs' ih =>
        obtain ⟨h1, h2⟩ := ih
        obtain ⟨i, hi⟩ := List.getElem?_of_mem h1
        have hil : i < L.length := (List.getElem?_eq_some_iff.1 hi).1
        obtain ⟨b1, b2⟩ := h.done i u q' v (by omega) hi hq' hs'
        exact ⟨b1, by omega⟩
    obtain ⟨m, hm⟩ := hex
    obtain ⟨j, hj⟩ := List.getElem?_of_mem (hall m v hm).1
    have hjl : j < L.length := (List.getElem?_eq_some_iff.1 hj).1
    obtain ⟨n, h1, h2, h3⟩ := h.wk j v hj
    have := h.le
    exact .inr ⟨n, by rw [← he, h1], by omega, h3, fun m' hm' => by have := (hall m' v hm').2; omega⟩
  · refine .inl ⟨least_none fun m _ => ?_, fun n hn => hex ⟨n, hn⟩⟩
    have : ¬ wkB st N a m v = true := fun e => hex ⟨m, (wkB_iff ha hst m v).1 e⟩
    simpa using this
theorem dZ_self (ha : a < N) (hst : ∀ u q v : Nat, st u q = (v : Int) → v < N) (v : Nat) : dZ st N a v = 0 ↔ v = a := by
  rcases dZ_spec ha hst v with ⟨h1, h2⟩ | ⟨n, h1, _, h3, h4⟩
  · refine ⟨fun e => by omega, fun e => ?_⟩
    subst e; exact absurd .zero (h2 0)
  · refine ⟨fun e => ?_, fun e => ?_⟩
    · obtain rfl : n = 0 := by omega
      cases h3; rfl
    · subst e
      have := h4 0 .zero
      omega
theorem dZ_sym {b : Nat} (ha : a < N) (hb : b < N) (hst : ∀ u q v : Nat, st u q = (v : Int) → v < N) (hbk : ∀ u q v : Nat, q < 4 → st u q = (v : Int) → ∃ q', q' < 4 ∧ st v q' = (u : Int)) : dZ st N a b = dZ st N b a := by
  rcases dZ_spec ha hst b with ⟨h1, h2⟩ | ⟨n, h1, _, h3, h4⟩
  · rcases dZ_spec hb hst a with ⟨g1, _⟩ | ⟨m, _, _, g3, _⟩
    · rw [h1, g1]
    · exact absurd (wk_rev hbk g3) (h2 m)
  · rcases dZ_spec hb hst a with ⟨_, g2⟩ | ⟨m, g1, _, g3, g4⟩
    · exact absurd (wk_rev hbk h3) (g2 n)
    · have := h4 m (wk_rev hbk g3)
      have := g4 n (wk_rev hbk h3)
      rw [h1, g1]; omega
theorem dZ_pos (ha : a < N) (hst : ∀ u q v : Nat, st u q = (v : Int) → v < N) (v : Nat) : 0 ≤ dZ st N a v ↔ ∃ n, Wk st a n v := by
  rcases dZ_spec ha hst v with ⟨h1, h2⟩ | ⟨n, h1, _, h3, _⟩
  · exact ⟨fun e => by omega, fun ⟨n, hn⟩ => absurd hn (h2 n)⟩
  · exact ⟨fun _ => ⟨n, h3⟩, fun _ => by omega⟩
theorem dZ_ge (v : Nat) (ha : a < N) (hst : ∀ u q v : Nat, st u q = (v : Int) → v < N) : -1 ≤ dZ st N a v ∧ dZ st N a v < N := by
  rcases dZ_spec ha hst v with ⟨h1, _⟩ | ⟨n, h1, h2, _, _⟩ <;> omega
end

/-- The parity of a cell: its column and its row. -/
def par (w k : Int) : Int := (k % w + k / w) % 2
theorem par_fin : ∀ w h : Fin 4, ∀ k : Fin 16, ∀ d : Fin 4, nbZ ((w : Nat) + 1) ((h : Nat) + 1) (k : Nat) (d : Nat) < 0 ∨ par ((w : Nat) + 1) (nbZ ((w : Nat) + 1) ((h : Nat) + 1) (k : Nat) (d : Nat)) = 1 - par ((w : Nat) + 1) (k : Nat) := by decide +kernel
theorem par_step (w h k d : Int) (hn : ¬ nbZ w h k d < 0) : par w (nbZ w h k d) = 1 - par w k := by
  obtain ⟨⟨a, b, c, e⟩, ⟨k0, k1⟩, hd, n0, n1⟩ := nb_some hn
  have hm := (mul_bd w h a b c e).1
  have := par_fin ⟨(w - 1).toNat, by omega⟩ ⟨(h - 1).toNat, by omega⟩ ⟨k.toNat, by omega⟩ ⟨d.toNat, by omega⟩
  rw [show (((w - 1).toNat : Nat) : Int) + 1 = w by omega, show (((h - 1).toNat : Nat) : Int) + 1 = h by omega, Int.toNat_of_nonneg k0, Int.toNat_of_nonneg hd.1] at this
  exact this.resolve_left hn
theorem wk_par {x y z : Int} {a n v : Nat} (h : Wk (stN x y z) a n v) : ((n : Int) + par x a + par x v) % 2 = 0 := by
  induction h with
  | zero => have : 0 ≤ par x a := by unfold par; omega
            omega
  | @step n u q v _ hq hs ih =>
    have hn : ¬ nbZ x y u q < 0 := by
      intro e
      have := st_neg (w := x) (h := y) (o := z) (k := u) (d := q) e
      unfold stN at hs; omega
    have hv : nbZ x y u q = (v : Int) := by
      unfold stN stZ at hs
      split at hs
      · exact hs
      · omega
    have := par_step x y u q hn
    rw [hv] at this
    have h1 : 0 ≤ par x u ∧ par x u ≤ 1 := by unfold par; omega
    omega
end Go.Proofs.Ytomjfcmaoeoigaa.reachM
