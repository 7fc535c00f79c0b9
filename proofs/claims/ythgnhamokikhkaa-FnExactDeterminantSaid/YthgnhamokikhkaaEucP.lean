/- Euclid's way to a determinant, without the program: rows are added to one another and exchanged, with wraparound; at the end it is the product of the diagonal. -/
import Derived.Test.YthgnhamokikhkaaMatX
namespace Go.Proofs.Ythgnhamokikhkaa.eucP
open Go.RowKit
open matP matX detP
set_option linter.unusedVariables false

theorem wadd {a b c d : Int} (h1 : wrap64 a = wrap64 b) (h2 : wrap64 c = wrap64 d) : wrap64 (a + c) = wrap64 (b + d) := by
  rw [← wrap_add a c, h1, wrap_add, ← wrap_add' b c, h2, wrap_add']
theorem wmul {a b c d : Int} (h1 : wrap64 a = wrap64 b) (h2 : wrap64 c = wrap64 d) : wrap64 (a * c) = wrap64 (b * d) := by
  rw [← wrap_mul a c, h1, wrap_mul, ← wrap_mul' b c, h2, wrap_mul']
theorem io_wrap {r q : Nat → Int} : ∀ {cs : List Nat} {f g : List Nat → Int}, (∀ c ∈ cs, wrap64 (r c) = wrap64 (q c)) → (∀ l, (∀ c ∈ l, c ∈ cs) → wrap64 (f l) = wrap64 (g l)) → wrap64 (io r f cs) = wrap64 (io q g cs)
  | [], _, _, _, _ => rfl
  | c :: cs, f, g, h, h' => by
    unfold io
    refine wadd (wmul (wmul rfl (h c (by simp))) (h' cs fun d hd => by simp [hd])) (io_wrap (fun d hd => h d (by simp [hd])) fun l hl => h' (c :: l) fun d hd => ?_)
    rcases List.mem_cons.1 hd with e | e
    · simp [e]
    · simp [hl d e]
theorem dt_wrap : ∀ {ps : List ((Nat → Int) × (Nat → Int))} {cs : List Nat}, (∀ p ∈ ps, ∀ c ∈ cs, wrap64 (p.1 c) = wrap64 (p.2 c)) → wrap64 (dt (ps.map (·.1)) cs) = wrap64 (dt (ps.map (·.2)) cs)
  | [], _, _ => rfl
  | p :: ps, cs, h => io_wrap (h p (by simp)) fun m hm => dt_wrap fun q hq c hc => h q (by simp [hq]) c (hm c hc)
theorem dm_wrap {a b : Nat → Nat → Int} {I : List Nat} (h : ∀ i ∈ I, ∀ j ∈ I, wrap64 (a i j) = wrap64 (b i j)) : wrap64 (dm a I) = wrap64 (dm b I) := by
  have := dt_wrap (ps := I.reverse.map fun u => (a u, b u)) (cs := I) fun p hp c hc => by
    obtain ⟨u, hu, rfl⟩ := List.mem_map.1 hp
    exact h u (List.mem_reverse.1 hu) c hc
  simpa [dm, List.map_map, Function.comp_def] using this
/-- A row is added to another one so many times. -/
theorem dm_added {a b : Nat → Nat → Int} {I : List Nat} {i k : Nat} {t : Int} (hI : I.Nodup) (hi : i ∈ I) (hk : k ∈ I) (hne : i ≠ k) (hb : b i = fun c => a i c + t * a k c) (ho : ∀ r, r ≠ i → b r = a r) : dm b I = dm a I := by
  unfold dm
  have hn : I.reverse.Nodup := List.pairwise_reverse.2 (List.Pairwise.imp (fun h e => h e.symm) hI)
  have hi' : i ∈ I.reverse := List.mem_reverse.2 hi
  have hk' : k ∈ I.reverse := List.mem_reverse.2 hk
  generalize I.reverse = J at *
  obtain ⟨s, u, rfl⟩ := List.append_of_mem hi'
  obtain ⟨n1, n2, n3⟩ := List.nodup_append.1 hn
  have his : i ∉ s := fun h => n3 i h i List.mem_cons_self rfl
  have hiu : i ∉ u := (List.nodup_cons.1 n2).1
  have hm : ∀ v : List Nat, i ∉ v → v.map b = v.map a := fun v h => List.map_congr_left fun r hr => ho r (fun e => h (e ▸ hr))
  rw [List.map_append, List.map_cons, hm s his, hm u hiu, hb, dt_add, dt_mul, List.map_append, List.map_cons]
  have hmem : a k ∈ s.map a ++ u.map a := by
    rw [← List.map_append]
    refine List.mem_map.2 ⟨k, ?_, rfl⟩
    rcases List.mem_append.1 hk' with h | h
    · exact List.mem_append.2 (.inl h)
    · exact List.mem_append.2 (.inr ((List.mem_cons.1 h).resolve_left (fun e => hne e.symm)))
  rw [dt_move (a k), dt_twice hmem, Int.mul_zero, Int.mul_zero, Int.add_zero]
/-- The product of the diagonal. -/
def pd (a : Nat → Nat → Int) : Nat → Int
  | 0 => 1
  | k + 1 => pd a k * a k k
theorem pd_congr {a b : Nat → Nat → Int} : ∀ {n : Nat}, (∀ i, i < n → a i i = b i i) → pd a n = pd b n
  | 0, _ => rfl
  | n + 1, h => by unfold pd; rw [pd_congr (fun i hi => h i (by omega)), h n (by omega)]
theorem dm_tri {a : Nat → Nat → Int} : ∀ {n : Nat}, (∀ i j, i < n → j < i → a i j = 0) → dm a (List.range n) = pd a n
  | 0, _ => rfl
  | n + 1, h => by
    have ih := dm_tri (a := a) (n := n) fun i j hi hj => h i j (by omega) hj
    unfold dm at ih ⊢
    rw [List.range_succ, List.reverse_append]
    show io (a n) (dt ((List.range n).reverse.map a)) (List.range n ++ [n]) = _
    rw [io_last fun c hc => h n c (by omega) (List.mem_range.1 hc), ih, pd, Int.mul_comm]

/-! ### lists -/
theorem mfn_set {ms : List (List Int)} {i k j : Nat} {l : List Int} (hi : i < ms.length) : mfn (ms.set i l) k j = if k = i then l.getD j 0 else mfn ms k j := by
  unfold mfn
  by_cases h : k = i
  · subst h
    simp [List.getD_eq_getElem?_getD, List.getElem?_set_self hi]
  · simp [List.getD_eq_getElem?_getD, List.getElem?_set_ne (fun e => h e.symm), h]
/-- A row is added to another one so many times. -/
def adL (l m : List Int) (t : Int) : List Int := List.zipWith (fun x y => wrap64 (x + wrap64 (t * y))) l m
theorem ad_len {l m : List Int} {t : Int} (h : l.length = m.length) : (adL l m t).length = l.length := by unfold adL; rw [List.length_zipWith]; omega
theorem ad_at {l m : List Int} {t x y : Int} {j : Nat} (hx : l[j]? = some x) (hy : m[j]? = some y) : (adL l m t)[j]? = some (wrap64 (x + wrap64 (t * y))) := by
  unfold adL; rw [List.getElem?_zipWith, hx, hy]
theorem ad_get {l m : List Int} {t : Int} {j : Nat} (h : l.length = m.length) (hj : j < l.length) : (adL l m t).getD j 0 = wrap64 (l.getD j 0 + wrap64 (t * m.getD j 0)) := by
  have h1 := List.getElem?_eq_getElem hj
  have h2 := List.getElem?_eq_getElem (show j < m.length by omega)
  rw [List.getD_eq_getElem?_getD, ad_at h1 h2, List.getD_eq_getElem?_getD, List.getD_eq_getElem?_getD, h1, h2]; rfl
/-- The first c columns are done. -/
def adC (l m : List Int) (t : Int) (c : Nat) : List Int := (adL l m t).take c ++ l.drop c
theorem adc_zero (l m : List Int) (t : Int) : adC l m t 0 = l := by simp [adC]
theorem adc_all {l m : List Int} {t : Int} (h : l.length = m.length) : adC l m t l.length = adL l m t := by
  unfold adC; rw [List.drop_length, List.append_nil, List.take_of_length_le (by rw [ad_len h]; omega)]
theorem adc_len {l m : List Int} {t : Int} (h : l.length = m.length) (c : Nat) : (adC l m t c).length = l.length := by
  unfold adC; rw [List.length_append, List.length_take, List.length_drop, ad_len h]; omega
theorem adc_at {l m : List Int} {t x : Int} {c : Nat} (h : l.length = m.length) (hx : l[c]? = some x) : (adC l m t c)[c]? = some x := by
  have hc := (List.getElem?_eq_some_iff.1 hx).1
  unfold adC
  rw [List.getElem?_append_right (by rw [List.length_take]; omega), List.length_take, ad_len h, List.getElem?_drop, show c + (c - min c l.length) = c by omega, hx]
theorem adc_next {l m : List Int} {t x y : Int} {c : Nat} (h : l.length = m.length) (hx : l[c]? = some x) (hy : m[c]? = some y) : adC l m t (c + 1) = (adC l m t c).set c (wrap64 (x + wrap64 (t * y))) := by
  have hc := (List.getElem?_eq_some_iff.1 hx).1
  apply List.ext_getElem?
  intro j
  by_cases hj : j = c
  · subst hj
    rw [List.getElem?_set_self (by rw [adc_len h]; exact hc)]
    unfold adC
    rw [List.getElem?_append_left (by rw [List.length_take, ad_len h]; omega), List.getElem?_take_of_lt (by omega), ad_at hx hy]
  · rw [List.getElem?_set_ne (fun e => hj e.symm)]
    unfold adC
    by_cases hl : j < c
    · rw [List.getElem?_append_left (by rw [List.length_take, ad_len h]; omega), List.getElem?_append_left (by rw [List.length_take, ad_len h]; omega), List.getElem?_take_of_lt (by omega), List.getElem?_take_of_lt hl]
    · rw [List.getElem?_append_right (by rw [List.length_take, ad_len h]; omega), List.getElem?_append_right (by rw [List.length_take, ad_len h]; omega), List.getElem?_drop, List.getElem?_drop, List.length_take, List.length_take, ad_len h]
      congr 1; omega

/-! ### what Euclid's way keeps -/
structure Eu (ms : List (List Int)) (n τ ρ : Nat) (s D : Int) : Prop where
  len : ms.length = n
  row : ∀ l ∈ ms, l.length = n
  rng : ∀ l ∈ ms, ∀ z ∈ l, -9223372036854775808 ≤ z ∧ z ≤ 9223372036854775807
  tri : ∀ i j, i < n → j < τ → j < i → mfn ms i j = 0
  zr : ∀ i, τ < i → i < ρ → mfn ms i τ = 0
  val : ∃ e : Int, s = wrap64 (e * pd (mfn ms) τ) ∧ wrap64 (e * dm (mfn ms) (List.range n)) = D
theorem eu_start {ms : List (List Int)} {n : Nat} (h1 : ms.length = n) (h2 : ∀ l ∈ ms, l.length = n) (h3 : ∀ l ∈ ms, ∀ z ∈ l, -9223372036854775808 ≤ z ∧ z ≤ 9223372036854775807) : Eu ms n 0 1 1 (wrap64 (dm (mfn ms) (List.range n))) :=
  ⟨h1, h2, h3, fun i j _ h => absurd h (by omega), fun i h h' => absurd h (by omega), 1, by show (1 : Int) = wrap64 (1 * 1); unfold wrap64; omega, by rw [Int.one_mul]⟩
theorem Eu.next {ms : List (List Int)} {n τ ρ : Nat} {s D : Int} (h : Eu ms n τ ρ s D) (h0 : mfn ms ρ τ = 0) : Eu ms n τ (ρ + 1) s D :=
  ⟨h.len, h.row, h.rng, h.tri, fun i h1 h2 => by
    rcases Nat.lt_or_ge i ρ with h' | h'
    · exact h.zr i h1 h'
    · rw [show i = ρ by omega]; exact h0, h.val⟩
theorem Eu.turn {ms : List (List Int)} {n τ : Nat} {s D : Int} (h : Eu ms n τ n s D) : Eu ms n (τ + 1) (τ + 2) (wrap64 (s * mfn ms τ τ)) D := by
  obtain ⟨e, h1, h2⟩ := h.val
  refine ⟨h.len, h.row, h.rng, fun i j hi hj hji => ?_, fun i h1 h2 => absurd h1 (by omega), e, ?_, h2⟩
  · rcases Nat.lt_or_ge j τ with h' | h'
    · exact h.tri i j hi h' hji
    · obtain rfl : j = τ := by omega
      exact h.zr i hji hi
  · rw [h1, wrap_mul, pd, Int.mul_assoc]
theorem Eu.done {ms : List (List Int)} {n ρ : Nat} {s D : Int} (h : Eu ms n n ρ s D) : s = D := by
  obtain ⟨e, h1, h2⟩ := h.val
  rw [h1, ← h2, dm_tri fun i j hi hj => h.tri i j hi (by omega) hj]
theorem Eu.step {ms : List (List Int)} {n τ ρ : Nat} {s D t : Int} {lt lr : List Int} (h : Eu ms n τ ρ s D) (hτ : τ < ρ) (hρ : ρ < n) (h1 : ms[τ]? = some lt) (h2 : ms[ρ]? = some lr) :
    Eu ((ms.set τ lr).set ρ (adL lt lr t)) n τ ρ (wrap64 (-s)) D := by
  have m1 : lt ∈ ms := List.mem_of_getElem? h1
  have m2 : lr ∈ ms := List.mem_of_getElem? h2
  have l1 := h.row lt m1
  have l2 := h.row lr m2
  have hn := h.len
  have g1 : ∀ j, mfn ms τ j = lt.getD j 0 := fun j => by simp [mfn, List.getD_eq_getElem?_getD, h1]
  have g2 : ∀ j, mfn ms ρ j = lr.getD j 0 := fun j => by simp [mfn, List.getD_eq_getElem?_getD, h2]
  have hS : ∀ k j, mfn ((ms.set τ lr).set ρ (adL lt lr t)) k j = if k = ρ then (adL lt lr t).getD j 0 else if k = τ then lr.getD j 0 else mfn ms k j := fun k j => by
    rw [mfn_set (by rw [List.length_set]; omega), mfn_set (by omega)]
  have hmem : ∀ l ∈ (ms.set τ lr).set ρ (adL lt lr t), l ∈ ms ∨ l = adL lt lr t := fun l hl => by
    rcases List.mem_or_eq_of_mem_set hl with h | h
    · rcases List.mem_or_eq_of_mem_set h with h | h
      · exact .inl h
      · exact .inl (h ▸ m2)
    · exact .inr h
  have had : ∀ j, j < n → (adL lt lr t).getD j 0 = wrap64 (mfn ms τ j + wrap64 (t * mfn ms ρ j)) := fun j hj => by rw [ad_get (by omega) (by omega), g1, g2]
  refine ⟨by simp [hn], fun l hl => ?_, fun l hl z hz => ?_, fun i j hi hj hji => ?_, fun i hi hi2 => ?_, ?_⟩
  · rcases hmem l hl with h' | rfl
    · exact h.row l h'
    · rw [ad_len (by omega), l1]
  · rcases hmem l hl with h' | rfl
    · exact h.rng l h' z hz
    · obtain ⟨j, hj, rfl⟩ := List.mem_iff_getElem.1 hz
      have hj2 : j < lt.length := by rw [ad_len (by omega)] at hj; exact hj
      have := ad_at (t := t) (List.getElem?_eq_getElem hj2) (List.getElem?_eq_getElem (show j < lr.length by omega))
      rw [List.getElem?_eq_getElem hj] at this
      rw [Option.some.inj this]
      exact wrap_bd _
  · rw [hS]
    have z1 := h.tri τ j (by omega) hj hj
    have z2 := h.tri ρ j hρ hj (by omega)
    split
    · rw [had j (by omega), z1, z2, Int.mul_zero, matX.wrap_zero]; exact matX.wrap_zero
    · split
      · rw [← g2]; exact z2
      · exact h.tri i j hi hj hji
  · rw [hS, if_neg (by omega), if_neg (by omega)]
    exact h.zr i hi hi2
  · obtain ⟨e, e1, e2⟩ := h.val
    refine ⟨-e, ?_, ?_⟩
    · rw [e1, wrap_neg, Int.neg_mul]
      congr 3
      exact pd_congr fun i hi => by rw [hS, if_neg (by omega), if_neg (by omega)]
    · have hR : (List.range n).Nodup := List.nodup_range
      have hr1 : τ ∈ List.range n := List.mem_range.2 (by omega)
      have hr2 : ρ ∈ List.range n := List.mem_range.2 hρ
      have hJ : ((List.range n).reverse).Nodup := List.pairwise_reverse.2 (List.Pairwise.imp (fun h e => h e.symm) hR)
      -- the row is added
      let b : Nat → Nat → Int := fun i => if i = τ then fun c => mfn ms τ c + t * mfn ms ρ c else mfn ms i
      have d1 : dm b (List.range n) = dm (mfn ms) (List.range n) := dm_added (i := τ) (k := ρ) (t := t) hR hr1 hr2 (by omega) (by simp [b]) (fun r hr => by simp [b, hr])
      let b' : Nat → Nat → Int := mfn (ms.set τ (adL lt lr t))
      have d2 : wrap64 (dm b' (List.range n)) = wrap64 (dm b (List.range n)) := dm_wrap fun i hi j hj => by
        have hj := List.mem_range.1 hj
        show wrap64 (mfn (ms.set τ (adL lt lr t)) i j) = wrap64 ((if i = τ then fun c => mfn ms τ c + t * mfn ms ρ c else mfn ms i) j)
        rw [mfn_set (by omega)]
        by_cases e : i = τ
        · rw [if_pos e, if_pos e, had j hj, wrap_twice, wrap_add']
        · rw [if_neg e, if_neg e]
      have d3 : dm (mfn ((ms.set τ lr).set ρ (adL lt lr t))) (List.range n) = - dm b' (List.range n) := by
        unfold dm
        refine dt_exch (i := τ) (k := ρ) hJ (List.mem_reverse.2 hr1) (List.mem_reverse.2 hr2) (by omega) ?_ ?_ (fun r h1 h2 => ?_) _
        · funext j
          show _ = mfn (ms.set τ (adL lt lr t)) ρ j
          rw [hS, if_neg (by omega), if_pos rfl, mfn_set (by omega), if_neg (by omega), g2]
        · funext j
          show _ = mfn (ms.set τ (adL lt lr t)) τ j
          rw [hS, if_pos rfl, mfn_set (by omega), if_pos rfl]
        · funext j
          show _ = mfn (ms.set τ (adL lt lr t)) r j
          rw [hS, if_neg h2, if_neg h1, mfn_set (by omega), if_neg h1]
      rw [d3, Int.neg_mul_neg, ← wrap_mul', d2, wrap_mul', d1]
      exact e2
/-- The entry becomes smaller. -/
theorem eu_less {a b : Int} (ha : -9223372036854775808 ≤ a ∧ a ≤ 9223372036854775807) (hb : -9223372036854775808 ≤ b ∧ b ≤ 9223372036854775807) (h0 : b ≠ 0) :
    wrap64 (a + wrap64 (wrap64 (- wrap64 (a.tdiv b)) * b)) = a.tmod b ∧ (a.tmod b).natAbs < b.natAbs := by
  have hlt : (a.tmod b).natAbs < b.natAbs := by
    rw [Int.natAbs_tmod]
    exact Nat.mod_lt _ (by omega)
  refine ⟨?_, hlt⟩
  have e : a + (-(a.tdiv b)) * b = a.tmod b := by
    have := Int.tmod_add_mul_tdiv a b
    rw [Int.neg_mul, Int.mul_comm]; omega
  rw [wrap_add', ← wrap_add', wrap_mul, ← wrap_mul (-_), wrap_neg, wrap_mul, wrap_add', e]
  unfold wrap64; omega
end Go.Proofs.Ythgnhamokikhkaa.eucP
