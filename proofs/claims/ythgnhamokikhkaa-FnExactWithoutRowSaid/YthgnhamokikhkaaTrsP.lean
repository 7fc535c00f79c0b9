/- Trees are counted by a minor of the matrix, without the program: an edge that leads out is left out, or its end goes over to the other side. -/
import Derived.Test.YthgnhamokikhkaaDetP
import Derived.Test.YthgnhamokikhkaaDeadP
namespace Go.Proofs.Ythgnhamokikhkaa.trsP
open gridP gridQ bitP mazeP mazeQ forest deadP detP
set_option linter.unusedVariables false

/-! ### counting sets of edges -/
theorem cnt_add (p q : Nat → Bool) (n : Nat) : ∀ m, cnt p (n + m) = cnt p n + cnt (fun k => p (n + k)) m
  | 0 => rfl
  | m + 1 => by
    show cnt p (n + m) + (if p (n + m) = true then 1 else 0) = cnt p n + (cnt (fun k => p (n + k)) m + if p (n + m) = true then 1 else 0)
    rw [cnt_add p q n m, Nat.add_assoc]
theorem bt_hi {o G : Nat} (h : o < 2 ^ G) : bt (2 ^ G + o) G = 1 := by
  unfold bt
  rw [Nat.add_div_left _ (Nat.pow_pos (by decide)), Nat.div_eq_of_lt h]
theorem bt_lo {o G g : Nat} (hg : g < G) : bt (2 ^ G + o) g = bt o g := by
  unfold bt
  obtain ⟨d, rfl⟩ : ∃ d, G = g + 1 + d := ⟨G - g - 1, by omega⟩
  have e : 2 ^ (g + 1 + d) + o = 2 ^ g * (2 * 2 ^ d) + o := by
    rw [Nat.pow_add, Nat.pow_succ]; rw [Nat.mul_assoc]
  rw [e, Nat.mul_add_div (Nat.pow_pos (by decide)), Nat.add_mod, Nat.mul_mod_right]; simp
/-- The sets without an edge, and those with it. -/
theorem cnt_bit {e : Nat} : ∀ {G : Nat} (p : Nat → Bool), e < G → cnt p (2 ^ G) = cnt (fun o => decide (bt o e = 0) && p o) (2 ^ G) + cnt (fun o => decide (bt o e = 0) && p (o + 2 ^ e)) (2 ^ G)
  | 0, _, h => absurd h (by omega)
  | G + 1, p, h => by
    have e2 : 2 ^ (G + 1) = 2 ^ G + 2 ^ G := by rw [Nat.pow_succ]; omega
    rw [e2, cnt_add p p, cnt_add _ p, cnt_add _ p]
    by_cases he : e = G
    · subst he
      have h1 : cnt (fun o => decide (bt o e = 0) && p o) (2 ^ e) = cnt p (2 ^ e) := cnt_ext fun o ho => by rw [bt_lt ho (Nat.le_refl _)]; simp
      have h2 : cnt (fun o => decide (bt (2 ^ e + o) e = 0) && p (2 ^ e + o)) (2 ^ e) = 0 := cnt_none fun o ho => by rw [bt_hi ho]; simp
      have h3 : cnt (fun o => decide (bt o e = 0) && p (o + 2 ^ e)) (2 ^ e) = cnt (fun k => p (2 ^ e + k)) (2 ^ e) := cnt_ext fun o ho => by rw [bt_lt ho (Nat.le_refl _), Nat.add_comm]; simp
      have h4 : cnt (fun o => decide (bt (2 ^ e + o) e = 0) && p (2 ^ e + o + 2 ^ e)) (2 ^ e) = 0 := cnt_none fun o ho => by rw [bt_hi ho]; simp
      rw [h1, h2, h3, h4]; omega
    · have i1 := cnt_bit (e := e) (G := G) p (by omega)
      have i2 := cnt_bit (e := e) (G := G) (fun k => p (2 ^ G + k)) (by omega)
      have h1 : cnt (fun o => decide (bt (2 ^ G + o) e = 0) && p (2 ^ G + o)) (2 ^ G) = cnt (fun o => decide (bt o e = 0) && p (2 ^ G + o)) (2 ^ G) := cnt_ext fun o ho => by rw [bt_lo (by omega)]
      have h2 : cnt (fun o => decide (bt (2 ^ G + o) e = 0) && p (2 ^ G + o + 2 ^ e)) (2 ^ G) = cnt (fun o => decide (bt o e = 0) && p (2 ^ G + (o + 2 ^ e))) (2 ^ G) := cnt_ext fun o ho => by rw [bt_lo (by omega), Nat.add_assoc]
      rw [i1, i2, h1, h2]; omega

/-! ### edges, and what they lead to -/
section
variable (G : Nat) (u v : Nat → Nat)
/-- A cell from which the edges of a set lead out of a list. -/
inductive Rc (E : Nat → Prop) (I : List Nat) : Nat → Prop
  | out (w : Nat) : w ∉ I → Rc E I w
  | left (g : Nat) : g < G → E g → Rc E I (u g) → Rc E I (v g)
  | right (g : Nat) : g < G → E g → Rc E I (v g) → Rc E I (u g)
/-- The matrix of a set of edges. -/
def inc (g i : Nat) : Int := (if u g = i then 1 else 0) - (if v g = i then 1 else 0)
def lap (E : Nat → Bool) (i j : Nat) : Int := ((List.range G).map fun g => if E g = true then inc u v g i * inc u v g j else 0).sum
/-- The sets of edges that are trees, from all cells of a list out of it. -/
def IsTr (E : Nat → Bool) (I : List Nat) (o : Nat) : Prop := (∀ g, g < G → bt o g = 1 → E g = true) ∧ pcN o G = I.length ∧ ∀ w ∈ I, Rc G u v (fun g => bt o g = 1) I w
end

section
variable {G : Nat} {u v : Nat → Nat}
theorem rc_mono {E E' : Nat → Prop} {I I' : List Nat} (hI : ∀ w, w ∉ I → w ∉ I') (hE : ∀ g, g < G → E g → E' g ∨ (u g ∉ I' ∧ v g ∉ I')) {w : Nat} (h : Rc G u v E I w) : Rc G u v E' I' w := by
  induction h with
  | out w hw => exact .out w (hI w hw)
  | left g hg he _ ih =>
    rcases hE g hg he with h | ⟨h1, h2⟩
    · exact .left g hg h ih
    · exact .out _ h2
  | right g hg he _ ih =>
    rcases hE g hg he with h | ⟨h1, h2⟩
    · exact .right g hg h ih
    · exact .out _ h1
/-- An end goes over to the other side. -/
theorem rc_over {E E' : Nat → Prop} {I I' : List Nat} {x : Nat} (hI : ∀ w, w ∉ I' → w ∉ I ∨ w = x) (hx : Rc G u v E' I x) (hE : ∀ g, g < G → E g → E' g) {w : Nat} (h : Rc G u v E I' w) : Rc G u v E' I w := by
  induction h with
  | out w hw =>
    rcases hI w hw with h | rfl
    · exact .out w h
    · exact hx
  | left g hg he _ ih => exact .left g hg (hE g hg he) ih
  | right g hg he _ ih => exact .right g hg (hE g hg he) ih
/-- No edge leads out. -/
theorem rc_none {E : Nat → Prop} {I : List Nat} (h : ∀ g, g < G → E g → (u g ∈ I ↔ v g ∈ I)) {w : Nat} (hw : Rc G u v E I w) : w ∉ I := by
  induction hw with
  | out w hw => exact hw
  | left g hg he _ ih => exact fun hm => ih ((h g hg he).2 hm)
  | right g hg he _ ih => exact fun hm => ih ((h g hg he).1 hm)
theorem pow_sub {n e : Nat} (h : bt n e = 1) : 2 ^ e ≤ n := (bt_take h).1
theorem good_skip {E E' : Nat → Bool} {I : List Nat} {e o : Nat} (he : e < G) (hE' : ∀ g, g < G → E' g = (E g && !(g == e))) (h0 : bt o e = 0) : IsTr G u v E I o ↔ IsTr G u v E' I o := by
  have : (∀ g, g < G → bt o g = 1 → E g = true) ↔ (∀ g, g < G → bt o g = 1 → E' g = true) := by
    constructor
    · intro h g hg hb
      rw [hE' g hg, h g hg hb]
      have : g ≠ e := by rintro rfl; omega
      simp [this]
    · intro h g hg hb
      have := h g hg hb
      rw [hE' g hg, Bool.and_eq_true] at this
      exact this.1
  unfold IsTr; rw [this]
theorem good_take {E E' : Nat → Bool} {xs ys : List Nat} {e o r x : Nat} (he : e < G) (hEe : E e = true) (hE' : ∀ g, g < G → E' g = (E g && !(g == e))) (h0 : bt o e = 0) (hx : x ∉ xs ++ ys) (hr : r ∉ xs ++ x :: ys) (hends : (u e = r ∧ v e = x) ∨ (u e = x ∧ v e = r)) :
    IsTr G u v E (xs ++ x :: ys) (o + 2 ^ e) ↔ IsTr G u v E' (xs ++ ys) o := by
  have hpc := pc_add h0 he
  have hbt : ∀ g, bt (o + 2 ^ e) g = 1 ↔ (g = e ∨ bt o g = 1) := fun g => by rw [bt_add h0]; split <;> simp_all
  have hmem : ∀ w, w ∈ xs ++ x :: ys ↔ w ∈ xs ++ ys ∨ w = x := fun w => by
    simp only [List.mem_append, List.mem_cons]
    exact ⟨fun h => h.elim (fun h => .inl (.inl h)) (fun h => h.elim .inr (fun h => .inl (.inr h))), fun h => h.elim (fun h => h.elim .inl (fun h => .inr (.inr h))) (fun h => .inr (.inl h))⟩
  have hr' : r ∉ xs ++ ys := fun h => hr ((hmem r).2 (.inl h))
  have hxr : Rc G u v (fun g => bt (o + 2 ^ e) g = 1) (xs ++ x :: ys) x := by
    have hR : Rc G u v (fun g => bt (o + 2 ^ e) g = 1) (xs ++ x :: ys) r := .out r hr
    rcases hends with ⟨h1, h2⟩ | ⟨h1, h2⟩
    · have := Rc.left (G := G) (u := u) (v := v) e he ((hbt e).2 (.inl rfl)) (h1 ▸ hR)
      rwa [h2] at this
    · have := Rc.right (G := G) (u := u) (v := v) e he ((hbt e).2 (.inl rfl)) (h2 ▸ hR)
      rwa [h1] at this
  unfold IsTr
  constructor
  · rintro ⟨h1, h2, h3⟩
    refine ⟨fun g hg hb => ?_, by simp at h2 ⊢; omega, fun w hw => ?_⟩
    · rw [hE' g hg, h1 g hg ((hbt g).2 (.inr hb))]
      have : g ≠ e := by rintro rfl; omega
      simp [this]
    · refine rc_mono (fun w hw h => hw ((hmem w).2 (.inl h))) (fun g hg hb => ?_) (h3 w ((hmem w).2 (.inl hw)))
      rcases (hbt g).1 hb with rfl | h
      · rcases hends with ⟨e1, e2⟩ | ⟨e1, e2⟩
        · exact .inr ⟨by rw [e1]; exact hr', by rw [e2]; exact hx⟩
        · exact .inr ⟨by rw [e1]; exact hx, by rw [e2]; exact hr'⟩
      · exact .inl h
  · rintro ⟨h1, h2, h3⟩
    refine ⟨fun g hg hb => ?_, by simp at h2 ⊢; omega, fun w hw => ?_⟩
    · rcases (hbt g).1 hb with rfl | h
      · exact hEe
      · have := h1 g hg h
        rw [hE' g hg, Bool.and_eq_true] at this
        exact this.1
    · rcases (hmem w).1 hw with h | rfl
      · refine rc_over (x := x) (fun w hw => ?_) hxr (fun g hg hb => (hbt g).2 (.inr hb)) (h3 w h)
        by_cases hwx : w = x
        · exact .inr hwx
        · exact .inl (fun h => ((hmem w).1 h).elim hw hwx)
      · exact hxr

/-! ### the matrix -/
theorem sum_del {f f' : Nat → Int} {e : Nat} (h0 : f' e = 0) : ∀ {G : Nat}, e < G → (∀ g, g < G → g ≠ e → f g = f' g) → ((List.range G).map f).sum = ((List.range G).map f').sum + f e
  | 0, h, _ => absurd h (by omega)
  | G + 1, h, he => by
    rw [List.range_succ, List.map_append, List.map_append, List.sum_append, List.sum_append]
    simp only [List.map_cons, List.map_nil, List.sum_cons, List.sum_nil]
    by_cases hg : e = G
    · subst hg
      have : (List.range e).map f = (List.range e).map f' := List.map_congr_left fun g hg => he g (by have := List.mem_range.1 hg; omega) (by have := List.mem_range.1 hg; omega)
      rw [this, h0]; omega
    · rw [sum_del h0 (G := G) (by omega) (fun g hg => he g (by omega)), he G (by omega) (fun h => hg h.symm)]; omega
theorem lap_del {E E' : Nat → Bool} {I : List Nat} {e r x : Nat} (he : e < G) (hEe : E e = true) (hE' : ∀ g, g < G → E' g = (E g && !(g == e))) (hr : r ∉ I) (hends : (u e = r ∧ v e = x) ∨ (u e = x ∧ v e = r)) {i j : Nat} (hi : i ∈ I) (hj : j ∈ I) :
    lap G u v E i j = lap G u v E' i j + if i = x ∧ j = x then 1 else 0 := by
  unfold lap
  have h0 : (if E' e = true then inc u v e i * inc u v e j else 0) = 0 := by rw [hE' e he]; simp
  rw [sum_del (e := e) (f' := fun g => if E' g = true then inc u v g i * inc u v g j else 0) h0 he (fun g hg hne => by rw [hE' g hg]; simp [hne]), if_pos hEe]
  congr 1
  have hri : r ≠ i := by rintro rfl; exact hr hi
  have hrj : r ≠ j := by rintro rfl; exact hr hj
  unfold inc
  rcases hends with ⟨h1, h2⟩ | ⟨h1, h2⟩ <;> rw [h1, h2, if_neg hri, if_neg hrj]
  · by_cases hxi : x = i <;> by_cases hxj : x = j <;> simp [hxi, hxj, eq_comm] <;> omega
  · by_cases hxi : x = i <;> by_cases hxj : x = j <;> simp [hxi, hxj, eq_comm] <;> omega
theorem sum_add (f g : Nat → Int) : ∀ l : List Nat, (l.map fun k => f k + g k).sum = (l.map f).sum + (l.map g).sum
  | [] => rfl
  | k :: l => by simp only [List.map_cons, List.sum_cons, sum_add f g l]; omega
theorem sum_mul (z : Int) (f : Nat → Int) : ∀ l : List Nat, (l.map fun k => f k * z).sum = (l.map f).sum * z
  | [] => by simp
  | k :: l => by simp only [List.map_cons, List.sum_cons, sum_mul z f l, Int.add_mul]
theorem sum_zero : ∀ {l : List Nat} {f : Nat → Int}, (∀ k ∈ l, f k = 0) → (l.map f).sum = 0
  | [], _, _ => rfl
  | k :: l, f, h => by simp only [List.map_cons, List.sum_cons]; rw [h k (by simp), sum_zero (fun j hj => h j (by simp [hj]))]; rfl
theorem sum_swap (f : Nat → Nat → Int) (m : List Nat) : ∀ l : List Nat, (l.map fun i => (m.map fun g => f i g).sum).sum = (m.map fun g => (l.map fun i => f i g).sum).sum
  | [] => by simp [sum_zero]
  | i :: l => by
    simp only [List.map_cons, List.sum_cons]
    rw [sum_swap f m l, ← sum_add]
theorem sum_delta {x : Nat} : ∀ {l : List Nat}, l.Nodup → (l.map fun i => if x = i then (1 : Int) else 0).sum = if x ∈ l then 1 else 0
  | [], _ => by simp
  | i :: l, h => by
    have h2 := List.nodup_cons.1 h
    simp only [List.map_cons, List.sum_cons, List.mem_cons]
    rw [sum_delta h2.2]
    by_cases hxi : x = i
    · subst hxi; simp [h2.1]
    · simp [hxi]
/-- Where no edge leads out, the rows add up to nothing. -/
theorem lap_sum {E : Nat → Bool} {I : List Nat} (hI : I.Nodup) (h : ∀ g, g < G → E g = true → (u g ∈ I ↔ v g ∈ I)) {j : Nat} (hj : j ∈ I) : (I.map fun i => lap G u v E i j).sum = 0 := by
  unfold lap
  rw [sum_swap (fun i g => if E g = true then inc u v g i * inc u v g j else 0)]
  refine sum_zero fun g hg => ?_
  have hg := List.mem_range.1 hg
  by_cases he : E g = true
  · simp only [if_pos he]
    rw [sum_mul]
    have : (I.map fun i => inc u v g i).sum = 0 := by
      have h1 := sum_add (fun i => if u g = i then (1 : Int) else 0) (fun i => (if v g = i then (1 : Int) else 0) * -1) I
      rw [sum_mul, sum_delta hI, sum_delta hI] at h1
      have h2 : (I.map fun i => inc u v g i) = I.map fun i => (if u g = i then (1 : Int) else 0) + (if v g = i then (1 : Int) else 0) * -1 := List.map_congr_left fun i _ => by unfold inc; omega
      rw [h2, h1]
      have := h g hg he
      by_cases hu : u g ∈ I
      · rw [if_pos hu, if_pos (this.1 hu)]; rfl
      · rw [if_neg hu, if_neg (fun hv => hu (this.2 hv))]; rfl
    rw [this]; simp
  · simp only [if_neg he]
    exact sum_zero fun _ _ => rfl
theorem pc_none {o : Nat} : ∀ {G : Nat}, pcN o G = 0 → ∀ g, g < G → bt o g = 0
  | 0, _, g, h => absurd h (by omega)
  | G + 1, h, g, hg => by
    unfold pcN at h
    by_cases e : g = G
    · subst e; unfold bt; omega
    · exact pc_none (G := G) (by omega) g (by omega)
theorem zero_of_bits {o G : Nat} (ho : o < 2 ^ G) (h : ∀ g, g < G → bt o g = 0) : o = 0 := by
  apply Nat.eq_of_testBit_eq
  intro i
  rw [bt_test, bt_test]
  by_cases hi : i < G
  · rw [h i hi]; simp [bt]
  · rw [bt_lt ho (by omega)]; simp [bt]
/-- Where no edge leads out. -/
theorem trees_out {E : Nat → Bool} {I : List Nat} {p : Nat → Bool} (hI : I.Nodup) (hp : ∀ o, o < 2 ^ G → (p o = true ↔ IsTr G u v E I o)) (hout : ∀ g, g < G → E g = true → (u g ∈ I ↔ v g ∈ I)) : (cnt p (2 ^ G) : Int) = dm (lap G u v E) I := by
  cases hI0 : I with
  | nil =>
    subst hI0
    rw [dm_nil]
    have h1 : cnt p (2 ^ G) = cnt (fun o => o == 0) (2 ^ G) := cnt_ext fun o ho => by
      rw [Bool.eq_iff_iff, hp o ho, beq_iff_eq]
      constructor
      · intro h; exact zero_of_bits ho (pc_none h.2.1)
      · rintro rfl
        have hz : ∀ k, pcN 0 k = 0 := fun k => by
          induction k with
          | zero => rfl
          | succ k ih => rw [pcN, ih]; simp
        exact ⟨fun g _ h => by simp [bt] at h, hz G, fun w hw => absurd hw (by simp)⟩
    have h2 := cnt_single 0 (2 ^ G)
    have h3 := cnt_pos (p := fun o => o == 0) (k := 0) (n := 2 ^ G) (Nat.pow_pos (by decide)) (by simp)
    rw [h1]; omega
  | cons w l =>
    rw [← hI0]
    have hw : w ∈ I := by rw [hI0]; simp
    rw [dm_sum (by rw [hI0]; simp) (fun j hj => lap_sum hI hout hj), cnt_none fun o ho => by
      rw [← Bool.not_eq_true, hp o ho]
      intro h
      exact rc_none (fun g hg hb => hout g hg (h.1 g hg hb)) (h.2.2 w hw) hw]
    rfl
/-- THE NUMBER OF TREES IS A MINOR. -/
theorem trees_minor : ∀ (k : Nat) {E : Nat → Bool} {I : List Nat} {p : Nat → Bool}, cnt E G ≤ k → I.Nodup → (∀ o, o < 2 ^ G → (p o = true ↔ IsTr G u v E I o)) → (cnt p (2 ^ G) : Int) = dm (lap G u v E) I := by
  intro k
  induction k with
  | zero =>
    intro E I p hk hI hp
    have hE : ∀ g, g < G → E g ≠ true := fun g hg he => by have := cnt_pos hg he; omega
    exact trees_out hI hp (fun g hg he => absurd he (hE g hg))
  | succ k ih =>
    intro E I p hk hI hp
    by_cases hout : ∀ g, g < G → E g = true → (u g ∈ I ↔ v g ∈ I)
    · exact trees_out hI hp hout
    · obtain ⟨e, he, hEe, r, x, hr, hx, hends⟩ : ∃ e, e < G ∧ E e = true ∧ ∃ r x, r ∉ I ∧ x ∈ I ∧ ((u e = r ∧ v e = x) ∨ (u e = x ∧ v e = r)) := by
        apply Classical.byContradiction
        intro hn
        refine hout fun g hg hE => ⟨fun h => ?_, fun h => ?_⟩
        · exact Classical.byContradiction fun h' => hn ⟨g, hg, hE, v g, u g, h', h, .inr ⟨rfl, rfl⟩⟩
        · exact Classical.byContradiction fun h' => hn ⟨g, hg, hE, u g, v g, h', h, .inl ⟨rfl, rfl⟩⟩
      obtain ⟨xs, ys, rfl⟩ := List.append_of_mem hx
      have hnd := List.nodup_append.1 hI
      have hx1 : x ∉ xs := fun h => hnd.2.2 x h x (by simp) rfl
      have hx2 : x ∉ ys := (List.nodup_cons.1 hnd.2.1).1
      have hI' : (xs ++ ys).Nodup := List.nodup_append.2 ⟨hnd.1, (List.nodup_cons.1 hnd.2.1).2, fun a ha b hb => hnd.2.2 a ha b (by simp [hb])⟩
      have hE' : ∀ g, g < G → (fun g => E g && !(g == e)) g = (E g && !(g == e)) := fun _ _ => rfl
      have hk' : cnt (fun g => E g && !(g == e)) G ≤ k := by
        have := cnt_del (p := E) (q := fun g => E g && !(g == e)) hEe (by simp) he (fun g _ hne => by simp [hne])
        omega
      have d := dm_diag (lap G u v E) (lap G u v fun g => E g && !(g == e)) x xs ys hx1 hx2 (fun i hi j hj => lap_del he hEe hE' hr hends hi hj)
      have hxn : x ∉ xs ++ ys := fun h => (List.mem_append.1 h).elim hx1 hx2
      have i1 := ih (E := fun g => E g && !(g == e)) (I := xs ++ x :: ys) (p := fun o => decide (bt o e = 0) && p o) hk' hI (fun o ho => by
        rw [Bool.and_eq_true, decide_eq_true_iff, hp o ho]
        constructor
        · rintro ⟨h0, h⟩; exact (good_skip he hE' h0).1 h
        · intro h
          have h0 : bt o e = 0 := by
            have := bt_le o e
            by_cases h1 : bt o e = 1
            · have := h.1 e he h1; simp at this
            · omega
          exact ⟨h0, (good_skip he hE' h0).2 h⟩)
      have i2 := ih (E := fun g => E g && !(g == e)) (I := xs ++ ys) (p := fun o => decide (bt o e = 0) && p (o + 2 ^ e)) hk' hI' (fun o ho => by
        rw [Bool.and_eq_true, decide_eq_true_iff]
        constructor
        · rintro ⟨h0, h⟩
          exact (good_take he hEe hE' h0 hxn hr hends).1 ((hp _ (add_lt ho he h0)).1 h)
        · intro h
          have h0 : bt o e = 0 := by
            have := bt_le o e
            by_cases h1 : bt o e = 1
            · have := h.1 e he h1; simp at this
            · omega
          exact ⟨h0, (hp _ (add_lt ho he h0)).2 ((good_take he hEe hE' h0 hxn hr hends).2 h)⟩)
      rw [d, ← i1, ← i2, cnt_bit p he]
      simp
end
end Go.Proofs.Ythgnhamokikhkaa.trsP
