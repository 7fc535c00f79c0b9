/- A tree of passages that is drawn, without the program: parts with labels are joined until there is one. -/
import Derived.Test.YtcoikcnijaniaaaForest
import Derived.Test.YtcoikcnijaniaaaMzB
namespace Go.Proofs.Ytcoikcnijaniaaa.treP
open gridP gridQ bitP mazeP mazeQ reachP reachM reachN forest
set_option linter.unusedVariables false

/-- The labels of the cells are those of the parts. -/
def UF (x y : Int) (o : Nat) (l : List Int) : Prop := l.length = cN x y ∧ ∀ u v, u < cN x y → v < cN x y → (l.getD u 0 = l.getD v 0 ↔ Cn x y o u v)
theorem getD_map {f : Int → Int} {l : List Int} {u : Nat} (h : u < l.length) : (l.map f).getD u 0 = f (l.getD u 0) := by
  rw [List.getD_eq_getElem?_getD, List.getD_eq_getElem?_getD, List.getElem?_map, List.getElem?_eq_getElem h]; rfl
theorem cn_zero {x y : Int} (hk : OkZ x y) {u v : Nat} : Cn x y 0 u v ↔ u = v := by
  have h0 : OkM x y ((0 : Nat) : Int) := okm hk (Nat.pow_pos (by decide))
  refine ⟨fun hc => cn_ind (E := fun u v => u = v) h0 (fun _ => rfl) (fun _ _ e => e.symm) (fun _ _ _ e e' => e.trans e') (fun g hg hb => by simp [bt] at hb) hc, fun e => by subst e; exact cn_refl 0 u⟩
theorem range_getD {n u : Nat} (h : u < n) : ((List.range n).map fun k : Nat => (k : Int)).getD u 0 = (u : Int) := by
  rw [List.getD_eq_getElem?_getD, List.getElem?_map, List.getElem?_range h]; rfl
theorem uf_start {x y : Int} (hk : OkZ x y) : UF x y 0 ((List.range (cN x y)).map fun k : Nat => (k : Int)) := by
  refine ⟨by simp, fun u v hu hv => ?_⟩
  rw [range_getD hu, range_getD hv, cn_zero hk]
  omega
/-- Two parts are joined: one label takes the other's place. -/
def relab (p q : Int) (u : Int) : Int := if u = q then p else u
theorem uf_join {x y : Int} {o g : Nat} {l : List Int} (hk : OkZ x y) (ho : o < 2 ^ gN x y) (hg : g < gN x y) (hu : UF x y o l) (hn : ¬ Cn x y o (aN x y g) (bN x y g)) :
    bt o g = 0 ∧ o + 2 ^ g < 2 ^ gN x y ∧ UF x y (o + 2 ^ g) (l.map (relab (l.getD (aN x y g) 0) (l.getD (bN x y g) 0))) ∧ lp x y (o + 2 ^ g) = lp x y o ∧ (∀ u v, Cn x y o u v → Cn x y (o + 2 ^ g) u v) ∧ Cn x y (o + 2 ^ g) (aN x y g) (bN x y g) := by
  have hb : bt o g = 0 := by
    have := bt_le o g
    by_cases h : bt o g = 1
    · exact absurd (cn_gap (okm hk ho) hg h) hn
    · omega
  have hlt := add_lt ho hg hb
  have ha := fun u v => @cn_add x y o g hk ho hg hb u v
  obtain ⟨hab, hbN, -, -⟩ := ends_lt hk hg
  refine ⟨hb, hlt, ⟨by simpa using hu.1, fun u v h1 h2 => ?_⟩, (lp_add hk ho hg hb).2 hn, fun u v h => (ha u v).2 (.inl h), cn_gap (okm hk hlt) hg (by rw [bt_add hb, if_pos rfl])⟩
  have hl := hu.1
  rw [getD_map (by omega), getD_map (by omega), ha u v]
  have e1 := hu.2 u v h1 h2
  have e2 := hu.2 u (aN x y g) h1 (by omega)
  have e3 := hu.2 u (bN x y g) h1 hbN
  have e4 := hu.2 v (aN x y g) h2 (by omega)
  have e5 := hu.2 v (bN x y g) h2 hbN
  have e6 := hu.2 (aN x y g) (bN x y g) (by omega) hbN
  have c1 := @cn_comm x y o v (aN x y g)
  have c2 := @cn_comm x y o v (bN x y g)
  generalize l.getD u 0 = lu at *
  generalize l.getD v 0 = lv at *
  generalize l.getD (aN x y g) 0 = la at *
  generalize l.getD (bN x y g) 0 = lb at *
  unfold relab
  rw [← e1]
  rw [← e6] at hn
  rw [show Cn x y o u (aN x y g) ↔ lu = la from e2.symm, show Cn x y o u (bN x y g) ↔ lu = lb from e3.symm, show Cn x y o (bN x y g) v ↔ lv = lb from c2.symm.trans e5.symm, show Cn x y o (aN x y g) v ↔ lv = la from c1.symm.trans e4.symm]
  split <;> split <;> omega

/-- Steps of a length with no common divisor come everywhere. -/
theorem inv_fin : ∀ G : Fin 25, ∀ s : Fin 26, (G : Nat) = 0 ∨ Nat.gcd s G ≠ 1 ∨ (List.range 24).any fun i => (i * (s : Nat)) % (G : Nat) == 1 % (G : Nat) := by decide +kernel
theorem cover {G s f g : Nat} (hG : 0 < G) (hG4 : G ≤ 24) (hs : s ≤ 25) (hc : Nat.gcd s G = 1) (hf : f < G) (hg : g < G) : ∃ j, j < G ∧ (f + j * s) % G = g := by
  rcases inv_fin ⟨G, by omega⟩ ⟨s, by omega⟩ with h | h | h
  · simp at h; omega
  · exact absurd hc h
  · rw [List.any_eq_true] at h
    obtain ⟨i, -, hi⟩ := h
    have hi : (i * s) % G = 1 % G := by simpa using hi
    refine ⟨((g + (G - f)) * i) % G, Nat.mod_lt _ hG, ?_⟩
    have e1 : ((g + (G - f)) * i % G * s) % G = (g + (G - f)) % G := by
      rw [Nat.mod_mul_mod, Nat.mul_assoc, Nat.mul_mod, hi, ← Nat.mul_mod, Nat.mul_one]
    rw [Nat.add_mod, e1, ← Nat.add_mod, show f + (g + (G - f)) = g + G by omega, Nat.add_mod_right, Nat.mod_eq_of_lt hg]
/-- A tree that comes everywhere is perfect. -/
theorem tree_one {x y : Int} {o G s f : Nat} (hk : OkZ x y) (hGN : gN x y = G) (hG : 0 < G) (hG4 : G ≤ 24) (hs : s ≤ 25) (hc : Nat.gcd s G = 1) (hf : f < G) (h : ∀ j, j < G → Cn x y o (aN x y ((f + j * s) % G)) (bN x y ((f + j * s) % G))) : pt x y o = 1 :=
  one_of_gaps hk fun g hg => by
    obtain ⟨j, hj, e⟩ := cover hG hG4 hs hc hf (show g < G by omega)
    have := h j hj
    rwa [e] at this
theorem tree_none {x y : Int} (hk : OkZ x y) (hGN : gN x y = 0) : pt x y 0 = 1 := one_of_gaps hk fun g hg => by omega
end Go.Proofs.Ytcoikcnijaniaaa.treP
