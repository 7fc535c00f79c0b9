/- Walks without loops, without the program: what is left of a list, its ways. -/
import Derived.Test.YthakbjdkcdppjaaWayP
namespace Go.Proofs.Ythakbjdkcdppjaa.ersP
open gridP gridQ bitP mazeP mazeQ reachP reachM reachN reachD wayP
set_option linter.unusedVariables false

/-- The place of a number in a list. -/
def ixN : List Int → Int → Nat
  | [], _ => 0
  | a :: l, u => if a = u then 0 else ixN l u + 1
theorem ix_at : ∀ {o : List Int} {u : Int}, u ∈ o → o[ixN o u]? = some u
  | a :: l, u, h => by
    unfold ixN
    by_cases e : a = u
    · rw [if_pos e]; simp [e]
    · rw [if_neg e]
      have h' : u ∈ l := by
        rcases List.mem_cons.1 h with h | h
        · exact absurd h.symm e
        · exact h
      simpa using ix_at h'
theorem ix_lt {o : List Int} {u : Int} (h : u ∈ o) : ixN o u < o.length := (List.getElem?_eq_some_iff.1 (ix_at h)).1
theorem ix_app : ∀ {o : List Int} {u : Int} (t : List Int), u ∈ o → ixN (o ++ t) u = ixN o u
  | a :: l, u, t, h => by
    simp only [List.cons_append, ixN]
    by_cases e : a = u
    · rw [if_pos e, if_pos e]
    · rw [if_neg e, if_neg e]
      have h' : u ∈ l := by
        rcases List.mem_cons.1 h with h | h
        · exact absurd h.symm e
        · exact h
      rw [ix_app t h']
theorem ix_new : ∀ {o : List Int} {u : Int}, u ∉ o → ixN (o ++ [u]) u = o.length
  | [], u, _ => by simp [ixN]
  | a :: l, u, h => by
    simp only [List.cons_append, ixN]
    rw [if_neg (fun e => h (by simp [e])), ix_new (fun e => h (by simp [e]))]
    simp
theorem ix_is {o : List Int} {u : Int} {i : Nat} (hd : o.Nodup) (h : o[i]? = some u) : ixN o u = i := by
  have hm : u ∈ o := List.mem_of_getElem? h
  exact (List.getElem?_inj (ix_lt hm) hd).1 (by rw [ix_at hm, h])
theorem ix_take {o : List Int} {u : Int} {k : Nat} (h : u ∈ o.take k) : ixN (o.take k) u = ixN o u := by
  have := ix_app (o.drop k) h
  rw [List.take_append_drop] at this
  exact this.symm

/-- One number more: where it is there already, what is behind it goes. -/
def erS (o : List Int) (u : Int) : List Int := if u ∈ o then o.take (ixN o u + 1) else o ++ [u]
/-- A list without its loops. -/
def erL (l : List Int) : List Int := l.foldl erS []
def smB (l : List Int) : Bool := decide l.Nodup
def ceZ (l : List Int) : Int := (l.length : Int) - ((erL l).length : Int)
theorem er_in {o : List Int} {u : Int} (h : u ∈ o) : erS o u = o.take (ixN o u + 1) := if_pos h
theorem er_out {o : List Int} {u : Int} (h : u ∉ o) : erS o u = o ++ [u] := if_neg h
theorem er_next {l : List Int} {k : Nat} {u : Int} (hu : l[k]? = some u) : erL (l.take (k + 1)) = erS (erL (l.take k)) u := by
  rw [take_one hu]; unfold erL; rw [List.foldl_append]; rfl
theorem er_zero (l : List Int) : erL (l.take 0) = [] := rfl
theorem er_step_nodup {o : List Int} {u : Int} (h : o.Nodup) : (erS o u).Nodup := by
  by_cases hu : u ∈ o
  · rw [er_in hu]; exact h.sublist (List.take_sublist _ _)
  · rw [er_out hu, List.nodup_append]
    exact ⟨h, by simp, fun a ha b hb => by simp at hb; subst hb; exact fun e => hu (e ▸ ha)⟩
theorem er_step_len (o : List Int) (u : Int) : (erS o u).length ≤ o.length + 1 := by
  by_cases hu : u ∈ o
  · rw [er_in hu, List.length_take]; omega
  · rw [er_out hu]; simp
/-- What holds of the result as long as the list is gone through. -/
theorem er_ind {l : List Int} {P : Nat → List Int → Prop} (h0 : P 0 []) (hs : ∀ k u o, l[k]? = some u → P k o → P (k + 1) (erS o u)) : ∀ k, k ≤ l.length → P k (erL (l.take k))
  | 0, _ => h0
  | k + 1, h => by
    have hu : l[k]? = some l[k] := List.getElem?_eq_getElem (by omega)
    rw [er_next hu]
    exact hs k _ _ hu (er_ind h0 hs k (by omega))
theorem er_all {l : List Int} {P : Nat → List Int → Prop} (h0 : P 0 []) (hs : ∀ k u o, l[k]? = some u → P k o → P (k + 1) (erS o u)) : P l.length (erL l) := by
  have := er_ind h0 hs l.length (Nat.le_refl _)
  rwa [List.take_of_length_le (Nat.le_refl _)] at this
theorem er_facts (l : List Int) {k : Nat} (hk : k ≤ l.length) : (erL (l.take k)).Nodup ∧ (erL (l.take k)).length ≤ k ∧ ∀ u ∈ erL (l.take k), u ∈ l :=
  er_ind (P := fun k o => o.Nodup ∧ o.length ≤ k ∧ ∀ u ∈ o, u ∈ l) ⟨by simp, by simp, by simp⟩ (fun k u o hu ⟨h1, h2, h3⟩ => ⟨er_step_nodup h1, by have := er_step_len o u; omega, fun v hv => by
    by_cases hm : u ∈ o
    · rw [er_in hm] at hv; exact h3 v (List.mem_of_mem_take hv)
    · rw [er_out hm] at hv
      rcases List.mem_append.1 hv with h | h
      · exact h3 v h
      · simp at h; subst h; exact List.mem_of_getElem? hu⟩) k hk
theorem er_nodup (l : List Int) : (erL l).Nodup := by
  have := (er_facts l (Nat.le_refl _)).1
  rwa [List.take_of_length_le (Nat.le_refl _)] at this
theorem er_len (l : List Int) : (erL l).length ≤ l.length := by
  have := (er_facts l (Nat.le_refl _)).2.1
  rwa [List.take_of_length_le (Nat.le_refl _)] at this
theorem er_sub (l : List Int) : ∀ u ∈ erL l, u ∈ l := by
  have := (er_facts l (Nat.le_refl _)).2.2
  rwa [List.take_of_length_le (Nat.le_refl _)] at this
/-- The first and the last number stay. -/
theorem er_ends (l : List Int) (hl : 0 < l.length) : 0 < (erL l).length ∧ (erL l)[0]? = l[0]? ∧ (erL l)[(erL l).length - 1]? = l[l.length - 1]? := by
  have h := er_all (l := l) (P := fun k o => (k = 0 → o = []) ∧ (0 < k → 0 < o.length ∧ o[0]? = l[0]? ∧ o[o.length - 1]? = l[k - 1]?)) ⟨fun _ => rfl, fun h => absurd h (by omega)⟩ (fun k u o hu ⟨h1, h2⟩ => ⟨fun h => absurd h (by omega), fun _ => by
    show _ ∧ _ ∧ _ = l[k]?
    by_cases hm : u ∈ o
    · have hi := ix_lt hm
      have hat := ix_at hm
      rw [er_in hm]
      have hk : 0 < k := Nat.pos_of_ne_zero fun e => by rw [h1 e] at hm; simp at hm
      obtain ⟨g1, g2, g3⟩ := h2 hk
      have hlen : (o.take (ixN o u + 1)).length = ixN o u + 1 := by rw [List.length_take]; omega
      refine ⟨by omega, ?_, ?_⟩
      · rw [List.getElem?_take, if_pos (by omega), g2]
      · rw [hlen, List.getElem?_take, if_pos (by omega), show ixN o u + 1 - 1 = ixN o u by omega, hat, hu]
    · rw [er_out hm]
      refine ⟨by simp, ?_, ?_⟩
      · rcases Nat.eq_zero_or_pos k with e | e
        · subst e; rw [h1 rfl, hu]; rfl
        · obtain ⟨g1, g2, g3⟩ := h2 e
          rw [List.getElem?_append_left g1, g2]
      · rw [hu]; simp⟩)
  exact h.2 hl
/-- A list without loops stays. -/
theorem er_same {l : List Int} (h : l.Nodup) : erL l = l := by
  have := er_all (l := l) (P := fun k o => o = l.take k) rfl (fun k u o hu e => by
    subst e
    rw [take_one hu, er_out]
    intro hm
    obtain ⟨j, hj⟩ := List.getElem?_of_mem hm
    have hj' := (List.getElem?_eq_some_iff.1 hj).1
    rw [List.length_take] at hj'
    rw [List.getElem?_take, if_pos (by omega)] at hj
    have hk := (List.getElem?_eq_some_iff.1 hu).1
    have := (List.getElem?_inj hk h).1 (hu.trans hj.symm)
    omega)
  rw [this, List.take_of_length_le (Nat.le_refl _)]
/-- What holds of neighbours in the list holds of neighbours in what is left. -/
theorem er_chain {l : List Int} {R : Int → Int → Prop} (h : ∀ i a b, l[i]? = some a → l[i + 1]? = some b → R a b) : ∀ i a b, (erL l)[i]? = some a → (erL l)[i + 1]? = some b → R a b := by
  have := er_all (l := l) (P := fun k o => (0 < o.length → 0 < k ∧ o[o.length - 1]? = l[k - 1]?) ∧ (0 < k → 0 < o.length) ∧ ∀ i a b, o[i]? = some a → o[i + 1]? = some b → R a b) ⟨fun h => absurd h (by simp), fun h => absurd h (by omega), fun i a b h1 => by simp at h1⟩ (fun k u o hu ⟨g1, g2, g3⟩ => by
    by_cases hm : u ∈ o
    · have hi := ix_lt hm
      have hlen : (o.take (ixN o u + 1)).length = ixN o u + 1 := by rw [List.length_take]; omega
      rw [er_in hm]
      refine ⟨fun _ => ⟨by omega, ?_⟩, fun _ => by omega, fun i a b ha hb => ?_⟩
      · rw [hlen, List.getElem?_take, if_pos (by omega), show ixN o u + 1 - 1 = ixN o u by omega, ix_at hm, show k + 1 - 1 = k by omega, hu]
      · have h2 := (List.getElem?_eq_some_iff.1 hb).1
        rw [hlen] at h2
        rw [List.getElem?_take, if_pos (by omega)] at ha hb
        exact g3 i a b ha hb
    · rw [er_out hm]
      refine ⟨fun _ => ⟨by omega, ?_⟩, fun _ => by simp, fun i a b ha hb => ?_⟩
      · rw [show k + 1 - 1 = k by omega, hu]; simp
      · rcases Nat.lt_or_ge (i + 1) o.length with h' | h'
        · rw [List.getElem?_append_left (by omega)] at ha hb
          exact g3 i a b ha hb
        · have h2 := (List.getElem?_eq_some_iff.1 hb).1
          simp at h2
          have hi : i + 1 = o.length := by omega
          rw [List.getElem?_append_left (by omega)] at ha
          have hb' : b = u := by rw [List.getElem?_append_right (by omega), hi] at hb; simp at hb; exact hb.symm
          subst hb'
          obtain ⟨hk, hlast⟩ := g1 (by omega)
          rw [show o.length - 1 = i by omega, ha] at hlast
          refine h (k - 1) a b hlast.symm ?_
          rw [show k - 1 + 1 = k by omega]; exact hu)
  exact this.2.2

/-- The direction from a cell to a neighbour. -/
def dirZ (x y a b : Int) : Int := if nbZ x y a 0 = b then 0 else if nbZ x y a 1 = b then 1 else if nbZ x y a 2 = b then 2 else if nbZ x y a 3 = b then 3 else -1
/-- The directions along cells. -/
def dwL (x y : Int) : List Int → List Int
  | a :: b :: l => dirZ x y a b :: dwL x y (b :: l)
  | _ => []
def ewL (x y z c : Int) (l : List Int) : List Int := dwL x y (erL (coL x y z c l))
def ewB (x y z c : Int) (l : List Int) : Bool := decide (0 < (erL (coL x y z c l)).length)
theorem dw_len (x y : Int) : ∀ l : List Int, (dwL x y l).length = l.length - 1
  | [] => rfl
  | [_] => rfl
  | a :: b :: l => by simp only [dwL, List.length_cons]; rw [dw_len x y (b :: l)]; simp
theorem dw_snoc (x y b : Int) : ∀ (l : List Int) (a : Int), dwL x y (l ++ [a] ++ [b]) = dwL x y (l ++ [a]) ++ [dirZ x y a b]
  | [], a => by simp [dwL]
  | [c], a => by simp [dwL]
  | c :: d :: l, a => by
    have := dw_snoc x y b (d :: l) a
    simp only [List.cons_append, dwL] at this ⊢
    rw [this]
theorem dw_next {x y : Int} {l : List Int} {k : Nat} {a b : Int} (ha : l[k]? = some a) (hb : l[k + 1]? = some b) : dwL x y (l.take (k + 2)) = dwL x y (l.take (k + 1)) ++ [dirZ x y a b] := by
  rw [show k + 2 = k + 1 + 1 from rfl, take_one hb, take_one ha, dw_snoc]
theorem dw_one {x y : Int} (l : List Int) : dwL x y (l.take 1) = [] := by
  cases l <;> rfl
theorem dw_none {x y : Int} (l : List Int) (h : l.length ≤ 1) : dwL x y l = [] := by
  match l, h with
  | [], _ => rfl
  | [_], _ => rfl
theorem dir_bd (x y a b : Int) : -1 ≤ dirZ x y a b ∧ dirZ x y a b ≤ 3 := by
  unfold dirZ; repeat' split <;> try omega
theorem co_far (x y z a : Int) (l : List Int) (h : 400 < l.length) : coL x y z a l = [] := by
  unfold coL wwB
  rw [decide_eq_false (show ¬ l.length ≤ 400 by omega)]; simp
theorem co_most (x y z a : Int) (l : List Int) : (coL x y z a l).length ≤ 401 := by
  by_cases h : 400 < l.length
  · rw [co_far x y z a l h]; simp
  · unfold coL; split
    · rw [ceL_len]; omega
    · simp
theorem ew_len (x y z c : Int) (l : List Int) : (ewL x y z c l).length ≤ 400 := by
  unfold ewL
  rw [dw_len]
  have h1 := er_len (coL x y z c l)
  have h2 := co_most x y z c l
  omega
/-! ### steps -/
/-- The direction from a cell to a neighbour, as it is looked for. -/
theorem dir_at (x y a b : Int) : (∃ k : Nat, k < 4 ∧ dirZ x y a b = k ∧ nbZ x y a k = b ∧ ∀ j : Nat, j < k → nbZ x y a j ≠ b) ∨ (dirZ x y a b = -1 ∧ ∀ j : Nat, j < 4 → nbZ x y a j ≠ b) := by
  unfold dirZ
  by_cases h0 : nbZ x y a 0 = b
  · left; rw [if_pos h0]; exact ⟨0, by omega, rfl, h0, fun j hj => absurd hj (by omega)⟩
  · rw [if_neg h0]
    by_cases h1 : nbZ x y a 1 = b
    · left; rw [if_pos h1]; exact ⟨1, by omega, rfl, h1, fun j hj => (by obtain rfl : j = 0 := (by omega); exact h0)⟩
    · rw [if_neg h1]
      by_cases h2 : nbZ x y a 2 = b
      · left; rw [if_pos h2]
        refine ⟨2, by omega, rfl, h2, fun j hj => ?_⟩
        have : j = 0 ∨ j = 1 := by omega
        rcases this with rfl | rfl
        · exact h0
        · exact h1
      · rw [if_neg h2]
        by_cases h3 : nbZ x y a 3 = b
        · left; rw [if_pos h3]
          refine ⟨3, by omega, rfl, h3, fun j hj => ?_⟩
          have : j = 0 ∨ j = 1 ∨ j = 2 := by omega
          rcases this with rfl | rfl | rfl
          · exact h0
          · exact h1
          · exact h2
        · right; rw [if_neg h3]
          refine ⟨rfl, fun j hj => ?_⟩
          have : j = 0 ∨ j = 1 ∨ j = 2 ∨ j = 3 := by omega
          rcases this with rfl | rfl | rfl | rfl
          · exact h0
          · exact h1
          · exact h2
          · exact h3
theorem dir_is {x y a b : Int} {k : Nat} (hk : k < 4) (h : nbZ x y a k = b) (hl : ∀ j : Nat, j < k → nbZ x y a j ≠ b) : dirZ x y a b = k := by
  rcases dir_at x y a b with ⟨j, hj, e, h1, h2⟩ | ⟨e, h1⟩
  · rw [e]
    rcases Nat.lt_trichotomy j k with h3 | h3 | h3
    · exact absurd h1 (hl j h3)
    · rw [h3]
    · exact absurd h (h2 k h3)
  · exact absurd h (h1 k hk)
theorem dir_none {x y a b : Int} (h : ∀ j : Nat, j < 4 → nbZ x y a j ≠ b) : dirZ x y a b = -1 := by
  rcases dir_at x y a b with ⟨j, hj, e, h1, h2⟩ | ⟨e, h1⟩
  · exact absurd h1 (h j hj)
  · exact e
theorem nb_inj2 {x y a q r : Int} (h0 : 0 ≤ nbZ x y a q) (h : nbZ x y a q = nbZ x y a r) : q = r := by
  obtain ⟨⟨h1, h2, h3, h4⟩, ⟨c1, c2⟩, ⟨d1, d2⟩, -, -⟩ := nb_some (show ¬ nbZ x y a q < 0 by omega)
  obtain ⟨-, -, ⟨e1, e2⟩, -, -⟩ := nb_some (show ¬ nbZ x y a r < 0 by omega)
  have hq : q = 0 ∨ q = 1 ∨ q = 2 ∨ q = 3 := by omega
  have hr : r = 0 ∨ r = 1 ∨ r = 2 ∨ r = 3 := by omega
  have hx : x = 1 ∨ x = 2 ∨ x = 3 ∨ x = 4 := by omega
  have hg : 1 ≤ x ∧ x ≤ 4 ∧ 1 ≤ y ∧ y ≤ 4 := ⟨h1, h2, h3, h4⟩
  have hc : 0 ≤ a ∧ a < x * y := ⟨c1, c2⟩
  unfold nbZ at h h0
  rw [if_pos hg, if_pos hc] at h h0
  rw [if_pos hg, if_pos hc] at h
  clear hg hc
  rcases hx with rfl | rfl | rfl | rfl <;> rcases hq with rfl | rfl | rfl | rfl <;> rcases hr with rfl | rfl | rfl | rfl <;> simp only [] at h h0 ⊢ <;> (first | rfl | (exfalso; simp at h h0 <;> ((repeat' split at h) <;> (repeat' split at h0) <;> omega)))
theorem st_nb2 {x y z a d : Int} (h : 0 ≤ stZ x y z a d) : stZ x y z a d = nbZ x y a d := by
  unfold stZ at h ⊢
  split
  · rfl
  · rename_i h'; rw [if_neg h'] at h; omega
/-- A step from a cell to another. -/
def Rr (x y z a b : Int) : Prop := hasB x y z a = true ∧ ∃ d : Nat, d < 4 ∧ stZ x y z a d = b ∧ 0 ≤ b
theorem rr_nat {x y z a b : Int} (h : Rr x y z a b) : OkM x y z ∧ ∃ i j d : Nat, a = i ∧ b = j ∧ i < cN x y ∧ j < cN x y ∧ d < 4 ∧ stN x y z i d = (j : Int) ∧ dirZ x y a b = d ∧ i ≠ j ∧ ∀ q : Nat, q < 4 → stN x y z i q = (j : Int) → q = d := by
  obtain ⟨hh, d, hd, hs, hb⟩ := h
  obtain ⟨hv, i, rfl, hi, hiN, hak, hN16, hNN⟩ := has_form hh
  obtain ⟨j, rfl⟩ := Int.eq_ofNat_of_zero_le hb
  have hsN : stN x y z i d = (j : Int) := hs
  have hnb : nbZ x y i d = j := by rw [← st_nb2 (show 0 ≤ stZ x y z i d by rw [hs]; exact hb), hs]
  have hu : ∀ q : Nat, q < 4 → nbZ x y i q = (j : Int) → q = d := fun q hq e => by
    have := nb_inj2 (x := x) (y := y) (a := i) (q := q) (r := d) (by rw [e]; exact hb) (by rw [e, hnb])
    omega
  refine ⟨hv, i, j, d, rfl, rfl, hiN, stN_lt i d j hsN, hd, hsN, dir_is hd hnb (fun q hq e => by have := hu q (by omega) e; omega), ?_, fun q hq e => hu q hq ?_⟩
  · rintro rfl
    rcases forest.nb_ne (x := x) (y := y) i d with h | h
    · exact h hnb
    · omega
  · have e' : stZ x y z i q = (j : Int) := e
    rw [← st_nb2 (show 0 ≤ stZ x y z i q by rw [e']; exact hb), e']
/-- The way from a cell to one that is a step away. -/
theorem step_way {x y z a b : Int} (h : Rr x y z a b) : wbL x y z a b = [dirZ x y a b] ∧ wbB x y z a b = true := by
  have hha := h.1
  obtain ⟨hv, i, j, d, rfl, rfl, hiN, hjN, hd, hs, hdz, hne, hu⟩ := rr_nat h
  have hhb : hasB x y z j = true := by
    have := (nn2 hv.1).1
    exact decide_eq_true ⟨hv, by omega, by omega⟩
  have hF : ∀ u q v : Nat, stN x y z u q = (v : Int) → v < cN x y := @stN_lt x y z
  have h1 : dZ (stN x y z) (cN x y) j i = 1 := by
    obtain ⟨q', hq', hs'⟩ := stN_back hd hs
    have w1 : Wk (stN x y z) j (0 + 1) i := Wk.step Wk.zero hq' hs'
    rcases dZ_spec hjN hF i with ⟨g1, g2⟩ | ⟨n, g1, _, g3, g4⟩
    · exact absurd w1 (g2 _)
    · have := g4 _ w1
      have h0 : n ≠ 0 := fun e => hne ((dZ_self hjN hF i).1 (by rw [g1, e]; rfl))
      omega
  have hds := ds_form hha hhb
  have e1 : (i : Int).toNat = i := by simp
  have e2 : (j : Int).toNat = j := by simp
  rw [e1, e2, h1] at hds
  have hb : wbB x y z i j = true := decide_eq_true (by rw [hds]; decide)
  refine ⟨?_, hb⟩
  unfold wbL
  rw [if_pos hb, e1, e2, h1]
  show wyN (stN x y z) (cN x y) j 1 i = _
  simp only [wyN]
  rw [hdz, fq_is hd]
  · rw [nr_true, hs, Int.toNat_natCast, h1]
    exact ⟨by omega, by rw [(dZ_self hjN hF j).2 rfl]; rfl⟩
  · intro q hq
    rw [← Bool.not_eq_true, nr_true]
    rintro ⟨h2, h3⟩
    obtain ⟨v, hv'⟩ := Int.eq_ofNat_of_zero_le h2
    rw [hv', Int.toNat_natCast, h1] at h3
    have := (dZ_self hjN hF v).1 (by rw [h3]; rfl)
    subst this
    have := hu q (by omega) hv'
    omega
/-- Along a walk each cell is a step from the one before. -/
theorem ce_chain {x y z : Int} : ∀ (l : List Int) (a : Int), hasB x y z a = true → 0 ≤ wkZ x y z l a → ∀ i p q, (ceL x y z l a)[i]? = some p → (ceL x y z l a)[i + 1]? = some q → Rr x y z p q
  | [], a, ha, hw, i, p, q, hp, hq => by simp [ceL] at hq
  | d :: l, a, ha, hw, i, p, q, hp, hq => by
    obtain ⟨hs, e⟩ := wkZ_begun hw
    rw [e] at hw
    have hdir := st_dir (show 0 ≤ stZ x y z a d by omega)
    obtain ⟨d', rfl⟩ := Int.eq_ofNat_of_zero_le hdir.1
    obtain ⟨hv, k, rfl, ha0, haN, hak, hN16, hNN⟩ := has_form ha
    obtain ⟨v, hv'⟩ := Int.eq_ofNat_of_zero_le (show 0 ≤ stZ x y z k d' by omega)
    have hvN : v < cN x y := stN_lt k d' v hv'
    have hhs : hasB x y z (stZ x y z k d') = true := by rw [hv']; exact decide_eq_true ⟨hv, by omega, by omega⟩
    simp only [ceL] at hp hq
    rcases i with _ | i
    · simp only [List.getElem?_cons_zero, Option.some.injEq] at hp
      rw [List.getElem?_cons_succ, ceL_head] at hq
      cases hq
      subst hp
      exact ⟨ha, d', by omega, rfl, by omega⟩
    · rw [List.getElem?_cons_succ] at hp hq
      exact ce_chain l _ hhs hw i p q hp hq
theorem co_chain {x y z a : Int} {l : List Int} : ∀ i p q, (coL x y z a l)[i]? = some p → (coL x y z a l)[i + 1]? = some q → Rr x y z p q := by
  by_cases h : wwB x y z a l = true
  · have h' := h
    unfold wwB at h'
    simp only [Bool.and_eq_true, decide_eq_true_iff] at h'
    unfold coL
    rw [if_pos h]
    exact ce_chain l a h'.1 h'.2.2
  · unfold coL
    rw [if_neg h]
    intro i p q hp
    simp at hp
theorem ce_range {x y z : Int} : ∀ (l : List Int) (a : Int), hasB x y z a = true → 0 ≤ wkZ x y z l a → ∀ u ∈ ceL x y z l a, hasB x y z u = true
  | [], a, ha, hw, u, hu => by simp [ceL] at hu; rw [hu]; exact ha
  | d :: l, a, ha, hw, u, hu => by
    obtain ⟨hs, e⟩ := wkZ_begun hw
    rw [e] at hw
    simp only [ceL, List.mem_cons] at hu
    rcases hu with rfl | hu
    · exact ha
    · refine ce_range l _ ?_ hw u hu
      have hdir := st_dir (show 0 ≤ stZ x y z a d by omega)
      obtain ⟨d', rfl⟩ := Int.eq_ofNat_of_zero_le hdir.1
      obtain ⟨hv, k, rfl, ha0, haN, hak, hN16, hNN⟩ := has_form ha
      obtain ⟨v, hv'⟩ := Int.eq_ofNat_of_zero_le (show 0 ≤ stZ x y z k d' by omega)
      have hvN : v < cN x y := stN_lt k d' v hv'
      rw [hv']; exact decide_eq_true ⟨hv, by omega, by omega⟩
theorem co_has {x y z a : Int} {l : List Int} : ∀ u ∈ coL x y z a l, hasB x y z u = true := by
  intro u hu
  unfold coL at hu
  split at hu
  · rename_i h
    unfold wwB at h
    simp only [Bool.and_eq_true, decide_eq_true_iff] at h
    exact ce_range l a h.1 h.2.2 u hu
  · simp at hu
theorem co_range {x y z a : Int} {l : List Int} : ∀ u ∈ coL x y z a l, -9223372036854775808 ≤ u ∧ u ≤ 9223372036854775807 := fun u hu => by
  obtain ⟨hv, k, rfl, h1, h2, h3, h4, h5⟩ := has_form (co_has u hu)
  omega
theorem er_steps {x y z a : Int} {l : List Int} : ∀ i p q, (erL (coL x y z a l))[i]? = some p → (erL (coL x y z a l))[i + 1]? = some q → Rr x y z p q := er_chain co_chain
/-- While one list is gone through: the place where the number has been met. -/
def eaZ (o : List Int) (u : Int) (i : Nat) : Int := if u ∈ o.take i then (ixN o u : Int) else -1
theorem ea_zero (o : List Int) (u : Int) : eaZ o u 0 = -1 := by unfold eaZ; simp
theorem ea_yes {o : List Int} {u : Int} {i : Nat} (hd : o.Nodup) (h : o[i]? = some u) : eaZ o u (i + 1) = i := by
  unfold eaZ
  rw [if_pos (by rw [take_one h]; simp), ix_is hd h]
theorem ea_no {o : List Int} {u d : Int} {i : Nat} (h : o[i]? = some d) (hne : ¬ d = u) : eaZ o u (i + 1) = eaZ o u i := by
  unfold eaZ
  rw [take_one h]
  by_cases hm : u ∈ o.take i
  · rw [if_pos hm, if_pos (by simp [hm])]
  · rw [if_neg hm, if_neg]
    intro h'
    rcases List.mem_append.1 h' with h' | h'
    · exact hm h'
    · simp at h'; exact hne h'.symm
theorem ea_in {o : List Int} {u : Int} {i : Nat} (hi : o.length ≤ i) (h : u ∈ o) : eaZ o u i = ixN o u := by
  unfold eaZ; rw [List.take_of_length_le hi, if_pos h]
theorem ea_out {o : List Int} {u : Int} {i : Nat} (hi : o.length ≤ i) (h : u ∉ o) : eaZ o u i = -1 := by
  unfold eaZ; rw [List.take_of_length_le hi, if_neg h]
/-- Whether no number comes twice, number by number. -/
theorem sm_take {l : List Int} {k : Nat} {u : Int} (hu : l[k]? = some u) : (l.take (k + 1)).Nodup ↔ (l.take k).Nodup ∧ u ∉ l.take k := by
  rw [take_one hu, List.nodup_append]
  refine ⟨fun ⟨h1, _, h3⟩ => ⟨h1, fun h => h3 u h u (by simp) rfl⟩, fun ⟨h1, h2⟩ => ⟨h1, by simp, fun a ha b hb => by simp at hb; subst hb; exact fun e => h2 (e ▸ ha)⟩⟩
theorem sm_no {l : List Int} {k : Nat} {u : Int} (hu : l[k]? = some u) (h : u ∈ l.take k) : smB l = false :=
  decide_eq_false fun hd => ((sm_take hu).1 (hd.sublist (List.take_sublist _ _))).2 h
end Go.Proofs.Ythakbjdkcdppjaa.ersP
