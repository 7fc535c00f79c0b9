/- Exact division in a matrix of a graph, without the program: what stands there are minors, none of them is large, and where one is 0 there is no tree. -/
import Derived.Test.YthgnhamokikhkaaTrsP
namespace Go.Proofs.Ythgnhamokikhkaa.barP
open gridP gridQ bitP mazeP mazeQ forest deadP detP trsP
set_option linter.unusedVariables false

/-! ### minors of a graph's matrix -/
section
variable {G : Nat} {u v : Nat → Nat}
theorem minor_cnt (E : Nat → Bool) {I : List Nat} (hI : I.Nodup) : ∃ p : Nat → Bool, (∀ o, o < 2 ^ G → (p o = true ↔ IsTr G u v E I o)) ∧ (cnt p (2 ^ G) : Int) = dm (lap G u v E) I := by
  have hp : ∀ o, o < 2 ^ G → ((fun o => @decide (IsTr G u v E I o) (Classical.propDecidable _)) o = true ↔ IsTr G u v E I o) := fun o _ => by simp
  exact ⟨_, hp, trees_minor _ (Nat.le_refl _) hI hp⟩
theorem cnt_most (p : Nat → Bool) : ∀ n, cnt p n ≤ n
  | 0 => Nat.le_refl _
  | n + 1 => by
    have := cnt_most p n
    show cnt p n + (if p n = true then 1 else 0) ≤ n + 1
    split <;> omega
theorem minor_bd (E : Nat → Bool) {I : List Nat} (hI : I.Nodup) : 0 ≤ dm (lap G u v E) I ∧ dm (lap G u v E) I ≤ 2 ^ G := by
  obtain ⟨p, -, h⟩ := minor_cnt (G := G) (u := u) (v := v) E hI
  have := cnt_most p (2 ^ G)
  have e : ((2 : Int) ^ G) = ((2 ^ G : Nat) : Int) := by simp
  rw [← h, e]; omega
/-- Where all is connected with what lies outside there is a tree. -/
theorem minor_pos : ∀ (k : Nat) {E : Nat → Bool} {I : List Nat}, cnt E G ≤ k → I.Nodup → (∀ w ∈ I, Rc G u v (fun g => E g = true) I w) → 1 ≤ dm (lap G u v E) I := by
  intro k
  induction k with
  | zero =>
    intro E I hk hI h
    have hE : ∀ g, g < G → E g ≠ true := fun g hg he => by have := cnt_pos hg he; omega
    cases I with
    | nil => rw [dm_nil]; decide
    | cons w l => exact absurd (show w ∈ w :: l by simp) (rc_none (fun g hg he => absurd he (hE g hg)) (h w (by simp)))
  | succ k ih =>
    intro E I hk hI h
    by_cases hout : ∀ g, g < G → E g = true → (u g ∈ I ↔ v g ∈ I)
    · cases I with
      | nil => rw [dm_nil]; decide
      | cons w l => exact absurd (show w ∈ w :: l by simp) (rc_none hout (h w (by simp)))
    · obtain ⟨e, he, hEe, r, x, hr, hx, hends⟩ : ∃ e, e < G ∧ E e = true ∧ ∃ r x, r ∉ I ∧ x ∈ I ∧ ((u e = r ∧ v e = x) ∨ (u e = x ∧ v e = r)) := by
        apply Classical.byContradiction
        intro hn
        refine hout fun g hg hE => ⟨fun h => ?_, fun h => ?_⟩
        · exact Classical.byContradiction fun h' => hn ⟨g, hg, hE, v g, u g, h', h, .inr ⟨rfl, rfl⟩⟩
        · exact Classical.byContradiction fun h' => hn ⟨g, hg, hE, u g, v g, h', h, .inl ⟨rfl, rfl⟩⟩
      obtain ⟨xs, ys, rfl⟩ := List.append_of_mem hx
      have hnd := List.nodup_append.1 hI
      have hx1 : x ∉ xs := fun h => hnd.2.2 x h x (by simp) rfl
      have hx2 : x ∉ ys := (List.nodup_cons.1 hnd.2.1).1
      have hI' : (xs ++ ys).Nodup := List.nodup_append.2 ⟨hnd.1, (List.nodup_cons.1 hnd.2.1).2, fun a ha b hb => hnd.2.2 a ha b (by simp [hb])⟩
      have hxn : x ∉ xs ++ ys := fun h => (List.mem_append.1 h).elim hx1 hx2
      have hsub : ∀ w, w ∈ xs ++ ys → w ∈ xs ++ x :: ys := fun w hw => by
        rcases List.mem_append.1 hw with h | h <;> simp [h]
      have hE' : ∀ g, g < G → (fun g => E g && !(g == e)) g = (E g && !(g == e)) := fun _ _ => rfl
      have hk' : cnt (fun g => E g && !(g == e)) G ≤ k := by
        have := cnt_del (p := E) (q := fun g => E g && !(g == e)) hEe (by simp) he (fun g _ hne => by simp [hne])
        omega
      have d := dm_diag (lap G u v E) (lap G u v fun g => E g && !(g == e)) x xs ys hx1 hx2 (fun i hi j hj => lap_del he hEe hE' hr hends hi hj)
      have i1 := (minor_bd (G := G) (u := u) (v := v) (fun g => E g && !(g == e)) hI).1
      have i2 := ih (E := fun g => E g && !(g == e)) (I := xs ++ ys) hk' hI' (fun w hw => by
        refine rc_mono (fun w hw h => hw (hsub w h)) (fun g hg hE => ?_) (h w (hsub w hw))
        by_cases hge : g = e
        · subst hge
          rcases hends with ⟨e1, e2⟩ | ⟨e1, e2⟩
          · exact .inr ⟨by rw [e1]; exact fun h => hr (hsub r h), by rw [e2]; exact hxn⟩
          · exact .inr ⟨by rw [e1]; exact hxn, by rw [e2]; exact fun h => hr (hsub r h)⟩
        · exact .inl (by rw [hE]; simp [hge]))
      omega
/-- Where a smaller minor is 0 the larger one is, too. -/
theorem minor_zero {E : Nat → Bool} {I J : List Nat} (hI : I.Nodup) (hJ : J.Nodup) (hs : ∀ w ∈ J, w ∈ I) (h : dm (lap G u v E) J = 0) : dm (lap G u v E) I = 0 := by
  obtain ⟨w, hw, hn⟩ : ∃ w, w ∈ J ∧ ¬ Rc G u v (fun g => E g = true) J w := by
    apply Classical.byContradiction
    intro hn
    have := minor_pos (G := G) (u := u) (v := v) (E := E) (I := J) _ (Nat.le_refl _) hJ (fun w hw => Classical.byContradiction fun h' => hn ⟨w, hw, h'⟩)
    omega
  obtain ⟨p, hp, he⟩ := minor_cnt (G := G) (u := u) (v := v) E hI
  rw [← he, cnt_none fun o ho => ?_]
  · rfl
  · rw [← Bool.not_eq_true, hp o ho]
    intro hg
    exact hn (rc_mono (fun w hw h => hw (hs w h)) (fun g hg' hb => .inl (hg.1 g hg' hb)) (hg.2.2 w (hs w hw)))
theorem lap_symm (E : Nat → Bool) (i j : Nat) : lap G u v E i j = lap G u v E j i := by
  unfold lap
  congr 1
  exact List.map_congr_left fun g _ => by rw [Int.mul_comm]
end

/-! ### other names for rows and columns -/
theorem io_map (w : Nat → Nat) (r : Nat → Int) : ∀ (cs : List Nat) (f : List Nat → Int), io (fun c => r (w c)) (fun l => f (l.map w)) cs = io r f (cs.map w)
  | [], _ => rfl
  | c :: cs, f => by
    show sg cs.length * r (w c) * f (cs.map w) + io (fun c => r (w c)) (fun l => f (w c :: l.map w)) cs = sg (cs.map w).length * r (w c) * f (cs.map w) + io r (fun l => f (w c :: l)) (cs.map w)
    rw [io_map w r cs (fun l => f (w c :: l)), List.length_map]
theorem dt_map (w : Nat → Nat) : ∀ (l : List (Nat → Int)) (cs : List Nat), dt (l.map fun r c => r (w c)) cs = dt l (cs.map w)
  | [], _ => rfl
  | r :: l, cs => by
    show io (fun c => r (w c)) (dt (l.map fun r c => r (w c))) cs = io r (dt l) (cs.map w)
    rw [← io_map w r cs (dt l)]
    exact io_congr (fun _ _ => rfl) fun m _ _ => dt_map w l m
theorem dm_map (a : Nat → Nat → Int) (w : Nat → Nat) (J : List Nat) : dm (fun i j => a (w i) (w j)) J = dm a (J.map w) := by
  unfold dm
  rw [← dt_map w, ← List.map_reverse, List.map_map, List.map_map]; rfl

/-! ### exact division -/
/-- A row that others add up to. -/
def Sp (l : List (Nat → Int)) (f : Nat → Int) : Prop := ∃ m : List (Int × (Nat → Int)), (∀ p ∈ m, p.2 ∈ l) ∧ ∀ c, f c = (m.map fun p => p.1 * p.2 c).sum
theorem sp_add {l : List (Nat → Int)} {f g : Nat → Int} (hf : Sp l f) (hg : Sp l g) : Sp l fun c => f c + g c := by
  obtain ⟨m, h1, h2⟩ := hf
  obtain ⟨n, h3, h4⟩ := hg
  exact ⟨m ++ n, fun p hp => (List.mem_append.1 hp).elim (h1 p) (h3 p), fun c => by rw [List.map_append, List.sum_append, ← h2, ← h4]⟩
theorem sp_mul {l : List (Nat → Int)} {f : Nat → Int} (z : Int) (hf : Sp l f) : Sp l fun c => z * f c := by
  obtain ⟨m, h1, h2⟩ := hf
  refine ⟨m.map fun p => (z * p.1, p.2), fun p hp => by obtain ⟨q, hq, rfl⟩ := List.mem_map.1 hp; exact h1 q hq, fun c => ?_⟩
  show z * f c = _
  rw [h2]
  clear h1 h2
  induction m with
  | nil => simp
  | cons p m ih => simp only [List.map_cons, List.sum_cons, Int.mul_add, Int.mul_assoc] at ih ⊢; rw [ih]
theorem sp_one {l : List (Nat → Int)} {r : Nat → Int} (h : r ∈ l) : Sp l r := ⟨[(1, r)], fun p hp => by rw [List.mem_singleton.1 hp]; exact h, fun c => by simp⟩
theorem sp_mono {l l' : List (Nat → Int)} {f : Nat → Int} (h : ∀ r ∈ l, r ∈ l') (hf : Sp l f) : Sp l' f := by
  obtain ⟨m, h1, h2⟩ := hf
  exact ⟨m, fun p hp => h _ (h1 p hp), h2⟩
theorem sp_zero (l : List (Nat → Int)) : Sp l fun _ => 0 := ⟨[], fun p hp => absurd hp (by simp), fun c => by simp⟩
theorem dt_sp {l : List (Nat → Int)} {f : Nat → Int} (h : Sp l f) (cs : List Nat) : dt (f :: l) cs = 0 := by
  obtain ⟨m, h1, h2⟩ := h
  have : f = fun c => (m.map fun p => p.1 * p.2 c).sum := funext h2
  rw [this]; exact dt_comb l cs m h1
/-- Two rows that are 0 but in the last two columns. -/
theorem io_last2 {r q : Nat → Int} {t c : Nat} {f : List Nat → Int} : ∀ {xs : List Nat}, (∀ d ∈ xs, r d = 0) → (∀ d ∈ xs, q d = 0) → io r (io q f) (xs ++ [t, c]) = (r c * q t - r t * q c) * f xs := by
  intro xs hr hq
  have key : ∀ (g : List Nat → Int) (xs : List Nat), (∀ d ∈ xs, r d = 0) → io r g (xs ++ [t, c]) = - (r t * g (xs ++ [c])) + r c * g (xs ++ [t]) := by
    intro g xs
    induction xs generalizing g with
    | nil => intro _; simp [io, sg, Int.neg_mul]
    | cons d xs ih =>
      intro h
      show sg _ * r d * g (xs ++ [t, c]) + io r (fun l => g (d :: l)) (xs ++ [t, c]) = _
      rw [h d (by simp), ih (fun l => g (d :: l)) (fun e he => h e (by simp [he]))]; simp
  rw [key _ xs hr, io_last hq, io_last hq, Int.sub_mul, ← Int.mul_assoc, ← Int.mul_assoc]; omega
section
variable (a : Nat → Nat → Int)
def rowsN (k : Nat) : List (Nat → Int) := (List.range k).reverse.map a
def pk (k : Nat) : Int := dm a (List.range k)
def fk (k i j : Nat) : Int := dt (a i :: rowsN a k) (List.range k ++ [j])
end
section
variable {a : Nat → Nat → Int}
theorem rows_succ (k : Nat) : rowsN a (k + 1) = a k :: rowsN a k := by unfold rowsN; rw [List.range_succ]; simp
theorem pk_zero : pk a 0 = 1 := rfl
theorem fk_zero (i j : Nat) : fk a 0 i j = a i j := by simp [fk, rowsN, dt, io, sg]
theorem fk_pk (k : Nat) : fk a k k k = pk a (k + 1) := by
  unfold fk pk dm
  rw [← rows_succ, ← List.range_succ]; rfl
theorem fk_dm (k i : Nat) : fk a k i i = dm a (List.range k ++ [i]) := by unfold fk dm rowsN; simp
/-- What stands after k rounds, and how it comes from the rows. -/
def Vk (a : Nat → Nat → Int) (k : Nat) (w : Nat → Nat → Int) : Prop := (∀ i c, c < k → w i c = 0) ∧ (∀ i c, k ≤ c → w i c = fk a k i c) ∧ ∀ i, ∃ q : Int, q ≠ 0 ∧ Sp (rowsN a k) fun c => q * w i c - q * pk a k * a i c
theorem vk_dt {k : Nat} {w : Nat → Nat → Int} (h : Vk a k w) (hp : pk a k ≠ 0) (i t t' c : Nat) (ht : k ≤ t') (hc : k ≤ c) : fk a k i c * fk a k t t' - fk a k i t' * fk a k t c = pk a k * dt (a i :: a t :: rowsN a k) (List.range k ++ [t', c]) := by
  obtain ⟨h1, h2, h3⟩ := h
  obtain ⟨q, hq, hsq⟩ := h3 i
  obtain ⟨s, hs, hss⟩ := h3 t
  have e1 : dt (w i :: w t :: rowsN a k) (List.range k ++ [t', c]) = (w i c * w t t' - w i t' * w t c) * pk a k := io_last2 (fun d hd => h1 i d (List.mem_range.1 hd)) (fun d hd => h1 t d (List.mem_range.1 hd))
  have n1 := dt_mul q (w i) [] (w t :: rowsN a k) (List.range k ++ [t', c])
  have n2 := dt_mul s (w t) [fun c => q * w i c] (rowsN a k) (List.range k ++ [t', c])
  have f1 : (fun c => q * w i c) = fun c => (q * w i c - q * pk a k * a i c) + q * pk a k * a i c := funext fun c => by omega
  have f2 : (fun c => s * w t c) = fun c => (s * w t c - s * pk a k * a t c) + s * pk a k * a t c := funext fun c => by omega
  have n3 := dt_add (fun c => s * w t c - s * pk a k * a t c) (fun c => s * pk a k * a t c) [fun c => q * w i c] (rowsN a k) (List.range k ++ [t', c])
  have n4 : dt ((fun c => q * w i c) :: (fun c => s * w t c - s * pk a k * a t c) :: rowsN a k) (List.range k ++ [t', c]) = 0 := by
    have := dt_swap (fun c => q * w i c) (fun c => s * w t c - s * pk a k * a t c) [] [] (rowsN a k) (List.range k ++ [t', c])
    simp only [List.nil_append] at this
    rw [this, dt_sp (sp_mono (fun r hr => by simp [hr]) hss)]; rfl
  have n5 := dt_mul (s * pk a k) (a t) [fun c => q * w i c] (rowsN a k) (List.range k ++ [t', c])
  have n6 := dt_add (fun c => q * w i c - q * pk a k * a i c) (fun c => q * pk a k * a i c) [] (a t :: rowsN a k) (List.range k ++ [t', c])
  have n7 : dt ((fun c => q * w i c - q * pk a k * a i c) :: a t :: rowsN a k) (List.range k ++ [t', c]) = 0 := dt_sp (sp_mono (fun r hr => by simp [hr]) hsq) _
  have n8 := dt_mul (q * pk a k) (a i) [] (a t :: rowsN a k) (List.range k ++ [t', c])
  simp only [List.nil_append, List.cons_append] at n1 n2 n3 n5 n6 n8
  rw [← f1, n7, n8, Int.zero_add] at n6
  rw [← f2, n4, n5, n6, Int.zero_add] at n3
  rw [n3, n1, e1] at n2
  rw [← h2 i c hc, ← h2 t t' ht, ← h2 i t' ht, ← h2 t c hc]
  generalize w i c * w t t' - w i t' * w t c = X at n2 ⊢
  generalize dt (a i :: a t :: rowsN a k) (List.range k ++ [t', c]) = D at n2 ⊢
  generalize pk a k = P at *
  -- s * P * (q * P * D) = s * (q * (X * P))
  have m1 : s * (q * (P * (P * D))) = s * (q * (P * X)) := by
    rw [show s * (q * (P * (P * D))) = s * P * (q * P * D) by simp only [Int.mul_assoc, Int.mul_left_comm], n2, Int.mul_comm X P]
  have m2 := Int.eq_of_mul_eq_mul_left hs m1
  have m3 := Int.eq_of_mul_eq_mul_left hq m2
  exact (Int.eq_of_mul_eq_mul_left hp m3).symm
theorem fk_next {k : Nat} {w : Nat → Nat → Int} (h : Vk a k w) (hp : pk a k ≠ 0) (i c : Nat) (hc : k ≤ c) : fk a k i c * pk a (k + 1) - fk a k i k * fk a k k c = pk a k * fk a (k + 1) i c := by
  have := vk_dt h hp i k k c (Nat.le_refl _) hc
  rw [fk_pk] at this
  rw [this]
  unfold fk
  rw [rows_succ, List.range_succ]; simp
theorem vk_next {k : Nat} {w : Nat → Nat → Int} (h : Vk a k w) (hp : pk a k ≠ 0) : ∃ w', Vk a (k + 1) w' := by
  refine ⟨fun i c => if c < k + 1 then 0 else fk a (k + 1) i c, fun i c hc => if_pos hc, fun i c hc => if_neg (by omega), fun i => ?_⟩
  have hn : ∀ c, pk a k * (if c < k + 1 then 0 else fk a (k + 1) i c) = w i c * pk a (k + 1) - w i k * w k c := fun c => by
    rcases Nat.lt_trichotomy c k with hc | hc | hc
    · rw [if_pos (by omega), h.1 i c hc, h.1 k c hc]; simp
    · subst hc
      rw [if_pos (by omega), h.2.1 c c (Nat.le_refl _), fk_pk]; simp
    · rw [if_neg (by omega), ← fk_next h hp i c (by omega), h.2.1 i c (by omega), h.2.1 i k (Nat.le_refl _), h.2.1 k c (by omega)]
  obtain ⟨q, hq, hsq⟩ := h.2.2 i
  obtain ⟨s, hs, hss⟩ := h.2.2 k
  refine ⟨q * s * pk a k, Int.mul_ne_zero (Int.mul_ne_zero hq hs) hp, ?_⟩
  have t1 := sp_mul (s * pk a (k + 1)) (sp_mono (l' := rowsN a (k + 1)) (fun r hr => by rw [rows_succ]; simp [hr]) hsq)
  have t2 := sp_mul (-(q * w i k)) (sp_mono (l' := rowsN a (k + 1)) (fun r hr => by rw [rows_succ]; simp [hr]) hss)
  have t3 := sp_mul (-(q * w i k * (s * pk a k))) (sp_one (l := rowsN a (k + 1)) (r := a k) (by rw [rows_succ]; simp))
  have := sp_add (sp_add t1 t2) t3
  refine Eq.mp (congrArg _ (funext fun c => ?_)) this
  show _ = q * s * pk a k * (if c < k + 1 then 0 else fk a (k + 1) i c) - _
  rw [Int.mul_assoc (q * s), hn c]
  generalize w i c = W1
  generalize w k c = W2
  generalize w i k = W3
  generalize pk a k = P
  generalize pk a (k + 1) = P1
  generalize a i c = A1
  generalize a k c = A2
  simp only [Int.mul_sub, Int.mul_neg, Int.mul_comm, Int.mul_left_comm]
  omega
theorem vk_all : ∀ (k : Nat), (∀ t, t < k → pk a t ≠ 0) → ∃ w, Vk a k w
  | 0, _ => ⟨a, fun i c h => absurd h (by omega), fun i c _ => (fk_zero i c).symm, fun i => ⟨1, by decide, by
    have : (fun c => 1 * a i c - 1 * pk a 0 * a i c) = fun _ => (0 : Int) := funext fun c => by rw [pk_zero]; simp
    rw [this]; exact sp_zero _⟩⟩
  | k + 1, h => by
    obtain ⟨w, hw⟩ := vk_all k fun t ht => h t (by omega)
    exact vk_next hw (h k (by omega))
theorem fk_symm (hs : ∀ i j, a i j = a j i) : ∀ (k : Nat), (∀ t, t < k → pk a t ≠ 0) → ∀ i j, k ≤ i → k ≤ j → fk a k i j = fk a k j i
  | 0, _, i, j, _, _ => by rw [fk_zero, fk_zero, hs]
  | k + 1, h, i, j, hi, hj => by
    obtain ⟨w, hw⟩ := vk_all k fun t ht => h t (by omega)
    have ih := fk_symm hs k fun t ht => h t (by omega)
    have e1 := fk_next hw (h k (by omega)) i j (by omega)
    have e2 := fk_next hw (h k (by omega)) j i (by omega)
    rw [ih i j (by omega) (by omega), ih i k (by omega) (Nat.le_refl _), ih k j (Nat.le_refl _) (by omega), Int.mul_comm (fk a k k i)] at e1
    exact Int.eq_of_mul_eq_mul_left (h k (by omega)) (e1.symm.trans e2)
/-- No entry is large. -/
theorem fk_bd {B : Int} (hs : ∀ i j, a i j = a j i) {k i j : Nat} (h : ∀ t, t < k → pk a t ≠ 0) (hp : 0 < pk a k) (hi : k ≤ i) (hj : k ≤ j) (hij : i ≠ j → 0 ≤ dm a (List.range k ++ [j, i])) (b1 : 0 ≤ fk a k i i ∧ fk a k i i ≤ B) (b2 : 0 ≤ fk a k j j ∧ fk a k j j ≤ B) : -B ≤ fk a k i j ∧ fk a k i j ≤ B := by
  by_cases e : i = j
  · subst e; omega
  · obtain ⟨w, hw⟩ := vk_all k h
    have h1 := vk_dt hw (by omega) i j j i hj hi
    have h2 : dt (a i :: a j :: rowsN a k) (List.range k ++ [j, i]) = dm a (List.range k ++ [j, i]) := by unfold dm rowsN; simp
    rw [h2, fk_symm hs k h j i hj hi] at h1
    have h3 : 0 ≤ pk a k * dm a (List.range k ++ [j, i]) := Int.mul_nonneg (by omega) (hij e)
    have h4 : fk a k i i * fk a k j j ≤ B * B := Int.mul_le_mul b1.2 b2.2 b2.1 (by omega)
    generalize fk a k i j = X at *
    have h5 : X * X ≤ B * B := by omega
    constructor
    · apply Classical.byContradiction; intro hn
      have : (B + 1) * (B + 1) ≤ (-X) * (-X) := Int.mul_le_mul (by omega) (by omega) (by omega) (by omega)
      rw [Int.neg_mul_neg] at this
      have e2 : (B + 1) * (B + 1) = B * B + 2 * B + 1 := by rw [Int.add_mul, Int.mul_add]; omega
      omega
    · apply Classical.byContradiction; intro hn
      have : (B + 1) * (B + 1) ≤ X * X := Int.mul_le_mul (by omega) (by omega) (by omega) (by omega)
      have e2 : (B + 1) * (B + 1) = B * B + 2 * B + 1 := by rw [Int.add_mul, Int.mul_add]; omega
      omega
end
end Go.Proofs.Ythgnhamokikhkaa.barP
