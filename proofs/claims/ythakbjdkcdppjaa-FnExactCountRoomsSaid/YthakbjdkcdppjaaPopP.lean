/- Mazes from arrows, without the program: arrows, what a walk uses up and what it leaves. -/
import Derived.Test.YthakbjdkcdppjaaErsP
import Derived.Test.YthakbjdkcdppjaaForest
namespace Go.Proofs.Ythakbjdkcdppjaa.popP
open gridP gridQ bitP mazeP mazeQ reachP reachM reachN reachD forest wayP ersP
set_option linter.unusedVariables false

/-! ### sums -/
def sm (f : Nat → Nat) : Nat → Nat
  | 0 => 0
  | n + 1 => sm f n + f n
theorem sm_ext {f g : Nat → Nat} : ∀ {n : Nat}, (∀ k, k < n → f k = g k) → sm f n = sm g n
  | 0, _ => rfl
  | n + 1, h => by unfold sm; rw [sm_ext fun k hk => h k (by omega), h n (by omega)]
theorem sm_le {f g : Nat → Nat} : ∀ {n : Nat}, (∀ k, k < n → f k ≤ g k) → sm f n ≤ sm g n
  | 0, _ => Nat.le_refl _
  | n + 1, h => by
    have h1 := sm_le (n := n) (f := f) (g := g) fun k hk => h k (by omega)
    have h2 := h n (by omega)
    unfold sm; omega
theorem sm_lt {f g : Nat → Nat} {c : Nat} (hc : f c < g c) : ∀ {n : Nat}, c < n → (∀ k, k < n → f k ≤ g k) → sm f n < sm g n
  | 0, h, _ => absurd h (by omega)
  | n + 1, h, hl => by
    have h2 := hl n (by omega)
    by_cases e : c = n
    · subst e
      have h1 := sm_le (n := c) (f := f) (g := g) fun k hk => hl k (by omega)
      unfold sm; omega
    · have h1 := sm_lt hc (n := n) (by omega) fun k hk => hl k (by omega)
      unfold sm; omega
theorem sm_bd {f : Nat → Nat} {B : Nat} : ∀ {n : Nat}, (∀ k, k < n → f k ≤ B) → sm f n ≤ n * B
  | 0, _ => by simp [sm]
  | n + 1, h => by
    have h1 := sm_bd (n := n) (f := f) (B := B) fun k hk => h k (by omega)
    have h2 := h n (by omega)
    unfold sm
    rw [Nat.add_one_mul]; omega
theorem sm_one {f g : Nat → Nat} {c : Nat} (hc : g c = f c + 1) (hl : ∀ k, k ≠ c → g k = f k) : ∀ {n : Nat}, c < n → sm g n = sm f n + 1
  | 0, h => absurd h (by omega)
  | n + 1, h => by
    by_cases e : c = n
    · subst e
      have h1 := sm_ext (n := c) (f := g) (g := f) fun k hk => hl k (by omega)
      unfold sm; omega
    · have h1 := sm_one hc hl (n := n) (by omega)
      have h2 := hl n (fun e' => e e'.symm)
      unfold sm; omega

/-! ### arrows -/
/-- The arrows of a cell. -/
def rwA (ls : List (List Int)) (c : Int) : List Int := (ls[c.toNat]?).getD []
/-- The top arrow, where t arrows of each cell are used up. -/
def awZ (ls : List (List Int)) (t : Int → Nat) (c : Int) : Int := ((rwA ls c)[t c]?).getD (-1)
/-- Where it leads to. -/
def nxZ (x y : Int) (ls : List (List Int)) (t : Int → Nat) (c : Int) : Int := nbZ x y c (awZ ls t c)
/-- One arrow of each cell of a list is used up. -/
def bmp (t : Int → Nat) (C : List Int) : Int → Nat := fun u => if u ∈ C then t u + 1 else t u
def upd (t : Int → Nat) (v : Int) : Int → Nat := fun u => if u = v then t u + 1 else t u
theorem bmp_nil (t : Int → Nat) : bmp t [] = t := by funext u; simp [bmp]
theorem bmp_next {t : Int → Nat} {C : List Int} {j : Nat} {v : Int} (hd : C.Nodup) (hv : C[j]? = some v) : bmp t (C.take (j + 1)) = upd (bmp t (C.take j)) v ∧ bmp t (C.take j) v = t v := by
  have hn : v ∉ C.take j := fun hm => by
    obtain ⟨i, hi⟩ := List.getElem?_of_mem hm
    have hlt := (List.getElem?_eq_some_iff.1 hi).1
    rw [List.length_take] at hlt
    rw [List.getElem?_take, if_pos (by omega)] at hi
    have := (List.getElem?_inj (List.getElem?_eq_some_iff.1 hi).1 hd).1 (hi.trans hv.symm)
    omega
  refine ⟨?_, by unfold bmp; rw [if_neg hn]⟩
  funext u
  rw [take_one hv]
  unfold bmp upd
  by_cases e : u = v
  · subst e; simp [hn]
  · simp [e]
theorem bmp_ge (t : Int → Nat) (C : List Int) (u : Int) : t u ≤ bmp t C u := by unfold bmp; split <;> omega
theorem bmp_out {t : Int → Nat} {C : List Int} {u : Int} (h : u ∉ C) : bmp t C u = t u := if_neg h
theorem bmp_in {t : Int → Nat} {C : List Int} {u : Int} (h : u ∈ C) : bmp t C u = t u + 1 := if_pos h

/-- The arrows are in order. -/
def aoB (x y : Int) (ls : List (List Int)) : Bool := decide (OkZ x y ∧ ls.length = cN x y ∧ (rwA ls 0).length = 0 ∧ ∀ k : Nat, k < ls.length → (rwA ls k).length ≤ 60 ∧ ∀ d ∈ rwA ls k, nbZ x y k d ≠ -1)
def Ao (x y : Int) (ls : List (List Int)) : Prop := OkZ x y ∧ ls.length = cN x y ∧ (rwA ls 0).length = 0 ∧ ∀ k : Nat, k < ls.length → (rwA ls k).length ≤ 60 ∧ ∀ d ∈ rwA ls k, nbZ x y k d ≠ -1
theorem ao_iff {x y : Int} {ls : List (List Int)} : aoB x y ls = true ↔ Ao x y ls := by unfold aoB Ao; exact decide_eq_true_iff
theorem rw_at {ls : List (List Int)} {k : Nat} {l : List Int} (h : ls[k]? = some l) : rwA ls k = l := by unfold rwA; simp [h]
theorem rw_out {ls : List (List Int)} {u : Int} (h : (ls.length : Int) ≤ u) : rwA ls u = [] := by
  unfold rwA; rw [List.getElem?_eq_none (by omega)]; rfl
theorem rw_neg {ls : List (List Int)} {u : Int} (h : u < 0) : rwA ls u = rwA ls 0 := by
  unfold rwA; rw [show u.toNat = 0 by omega]; rfl
section
variable {x y : Int} {ls : List (List Int)}
theorem Ao.n16 (h : Ao x y ls) : ls.length = cN x y ∧ x * y = (cN x y : Int) ∧ 1 ≤ cN x y ∧ cN x y ≤ 16 := by
  obtain ⟨⟨h1, h2, h3, h4⟩, h5, -⟩ := h
  have := (mul_bd x y h1 h2 h3 h4).1
  unfold cN at h5 ⊢; omega
theorem Ao.row (h : Ao x y ls) (u : Int) : (rwA ls u).length ≤ 60 := by
  rcases Int.lt_or_le u 0 with hu | hu
  · rw [rw_neg hu, h.2.2.1]; omega
  · obtain ⟨k, rfl⟩ := Int.eq_ofNat_of_zero_le hu
    by_cases hk : k < ls.length
    · exact (h.2.2.2 k hk).1
    · rw [rw_out (by omega)]; simp
/-- A cell that has an arrow left. -/
theorem Ao.top (h : Ao x y ls) {t : Int → Nat} {c : Int} (hc : 0 ≤ c ∧ c < x * y) (ht : t c < (rwA ls c).length) : (rwA ls c)[t c]? = some (awZ ls t c) ∧ 0 ≤ nxZ x y ls t c ∧ nxZ x y ls t c < x * y ∧ c ≠ 0 ∧ ¬ nbZ x y c (awZ ls t c) < 0 := by
  have hg : (rwA ls c)[t c]? = some (awZ ls t c) := by unfold awZ; rw [List.getElem?_eq_getElem ht]; rfl
  obtain ⟨k, rfl⟩ := Int.eq_ofNat_of_zero_le hc.1
  have hn := h.n16
  have h1 := (h.2.2.2 k (by omega)).2 _ (List.mem_of_getElem? hg)
  have h2 := nb_ge x y k (awZ ls t k)
  have h3 : ¬ nbZ x y k (awZ ls t k) < 0 := by omega
  have h4 := nb_some h3
  refine ⟨hg, h4.2.2.2.1, h4.2.2.2.2, fun e => ?_, h3⟩
  have := h.2.2.1
  rw [e] at ht
  omega

/-! ### a walk -/
/-- A walk with its cells w, at cell c. -/
def pwW (x y : Int) (ls : List (List Int)) (L : List Int) : Nat → List Int → Int → (Int → Nat) → Option (List Int × (Int → Nat))
  | 0, _, _, _ => none
  | n + 1, w, c, t =>
    if c ∈ L then some (w, t)
    else if (bmp t (w.drop (ixN w c))) c < (rwA ls c).length then pwW x y ls L n (w.take (ixN w c) ++ [c]) (nxZ x y ls (bmp t (w.drop (ixN w c))) c) (bmp t (w.drop (ixN w c)))
    else none
theorem pw_in {L : List Int} {n : Nat} {w : List Int} {c : Int} {t : Int → Nat} (h : c ∈ L) : pwW x y ls L (n + 1) w c t = some (w, t) := by unfold pwW; rw [if_pos h]
theorem pw_none {L : List Int} {n : Nat} {w : List Int} {c : Int} {t : Int → Nat} (h : c ∉ L) (h' : ¬ (bmp t (w.drop (ixN w c))) c < (rwA ls c).length) : pwW x y ls L (n + 1) w c t = none := by unfold pwW; rw [if_neg h, if_neg h']
theorem pw_next {L : List Int} {n : Nat} {w : List Int} {c : Int} {t : Int → Nat} (h : c ∉ L) (h' : (bmp t (w.drop (ixN w c))) c < (rwA ls c).length) :
    pwW x y ls L (n + 1) w c t = pwW x y ls L n (w.take (ixN w c) ++ [c]) (nxZ x y ls (bmp t (w.drop (ixN w c))) c) (bmp t (w.drop (ixN w c))) := by
  conv => lhs; unfold pwW
  rw [if_neg h, if_pos h']
theorem ix_none : ∀ {o : List Int} {u : Int}, u ∉ o → ixN o u = o.length
  | [], _, _ => rfl
  | a :: l, u, h => by
    unfold ixN
    rw [if_neg (fun e => h (by simp [e])), ix_none fun h' => h (List.mem_cons_of_mem _ h')]; simp
theorem ix_le (o : List Int) (u : Int) : ixN o u ≤ o.length := by
  by_cases h : u ∈ o
  · exact Nat.le_of_lt (ix_lt h)
  · rw [ix_none h]; exact Nat.le_refl _
theorem ix_snoc (w : List Int) (c : Int) : (w ++ [c])[ixN w c]? = some c := by
  by_cases h : c ∈ w
  · rw [List.getElem?_append_left (ix_lt h)]; exact ix_at h
  · rw [ix_none h]; simp

/-- What holds of a walk at a cell: L the maze's cells. -/
structure Pw (x y : Int) (ls : List (List Int)) (L : List Int) (w : List Int) (c : Int) (t : Int → Nat) : Prop where
  ao : Ao x y ls
  zero : (0 : Int) ∈ L
  nod : w.Nodup
  rng : ∀ u ∈ w, 0 ≤ u ∧ u < x * y
  out : ∀ u ∈ w, u ∉ L
  left : ∀ u ∈ w, t u < (rwA ls u).length
  all : ∀ u, t u ≤ (rwA ls u).length
  here : 0 ≤ c ∧ c < x * y
  chain : ∀ (i : Nat) (a : Int), w[i]? = some a → (w ++ [c])[i + 1]? = some (nxZ x y ls t a)
/-- How far a walk can still go. -/
def msP (x y : Int) (ls : List (List Int)) (w : List Int) (t : Int → Nat) : Nat := sm (fun k => (rwA ls k).length - t k) (cN x y) * 17 + (16 - w.length)
theorem ms_bd (h : Ao x y ls) (w : List Int) (t : Int → Nat) : msP x y ls w t < 20000 := by
  have h1 := sm_bd (f := fun k => (rwA ls k).length - t k) (B := 60) (n := cN x y) fun k _ => by have := h.row k; omega
  have h2 := h.n16
  unfold msP; omega
theorem int_nodup {L : List Int} {N : Nat} (hd : L.Nodup) (hr : ∀ u ∈ L, 0 ≤ u ∧ u < (N : Int)) : L.length ≤ N := by
  have := nodup_le N (L.map Int.toNat) (by
    rw [List.nodup_iff_pairwise_ne, List.pairwise_map]
    refine List.Pairwise.imp_of_mem (fun {a b} ha hb hab e => hab ?_) (List.nodup_iff_pairwise_ne.1 hd)
    have h1 := hr a ha
    have h2 := hr b hb
    omega) (fun v hv => by
      obtain ⟨u, hu, rfl⟩ := List.mem_map.1 hv
      have := hr u hu
      omega)
  simpa using this
theorem take_mem {w : List Int} {k : Nat} {u : Int} (hd : w.Nodup) (h : u ∈ w.take k) : u ∉ w.drop k := by
  rw [← List.take_append_drop k w, List.nodup_append] at hd
  exact fun h' => hd.2.2 u h u h' rfl
theorem Pw.w16 {L w : List Int} {c : Int} {t : Int → Nat} (h : Pw x y ls L w c t) : w.length ≤ 16 := by
  have h1 := h.ao.n16
  have := int_nodup (N := cN x y) h.nod fun u hu => by have := h.rng u hu; omega
  omega
theorem Pw.c_in {L w : List Int} {c : Int} {t : Int → Nat} (h : Pw x y ls L w c t) (hc : c ∈ w) : c ∈ w.drop (ixN w c) := by
  rw [List.drop_eq_getElem_cons (ix_lt hc)]
  have := ix_at hc
  rw [List.getElem?_eq_getElem (ix_lt hc)] at this
  rw [Option.some.inj this]; simp
/-- The tops behind a step's first half. -/
theorem Pw.half {L w : List Int} {c : Int} {t : Int → Nat} (h : Pw x y ls L w c t) : ∀ u, bmp t (w.drop (ixN w c)) u ≤ (rwA ls u).length := fun u => by
  unfold bmp; split
  · rename_i hu; exact h.left u (List.mem_of_mem_drop hu)
  · exact h.all u
theorem Pw.same {L w : List Int} {c u : Int} {t : Int → Nat} (h : Pw x y ls L w c t) (hu : u ∈ w.take (ixN w c)) : bmp t (w.drop (ixN w c)) u = t u := bmp_out (take_mem h.nod hu)
/-- One step. -/
theorem Pw.step {L w : List Int} {c : Int} {t : Int → Nat} (h : Pw x y ls L w c t) (hc : c ∉ L) (hl : bmp t (w.drop (ixN w c)) c < (rwA ls c).length) :
    Pw x y ls L (w.take (ixN w c) ++ [c]) (nxZ x y ls (bmp t (w.drop (ixN w c))) c) (bmp t (w.drop (ixN w c))) ∧ msP x y ls (w.take (ixN w c) ++ [c]) (bmp t (w.drop (ixN w c))) < msP x y ls w t := by
  have hix := ix_le w c
  have hlen : (w.take (ixN w c)).length = ixN w c := by rw [List.length_take]; omega
  have htop := h.ao.top h.here hl
  have hP : Pw x y ls L (w.take (ixN w c) ++ [c]) (nxZ x y ls (bmp t (w.drop (ixN w c))) c) (bmp t (w.drop (ixN w c))) := by
    refine ⟨h.ao, h.zero, ?_, fun u hu => ?_, fun u hu => ?_, fun u hu => ?_, h.half, ⟨htop.2.1, htop.2.2.1⟩, fun i a hi => ?_⟩
    · rw [List.nodup_append]
      refine ⟨h.nod.sublist (List.take_sublist _ _), by simp, fun a ha b hb => ?_⟩
      rw [List.mem_singleton.1 hb]
      rintro rfl
      have hw := List.mem_of_mem_take ha
      exact take_mem h.nod ha (h.c_in hw)
    · rcases List.mem_append.1 hu with hu | hu
      · exact h.rng u (List.mem_of_mem_take hu)
      · rw [List.mem_singleton.1 hu]; exact h.here
    · rcases List.mem_append.1 hu with hu | hu
      · exact h.out u (List.mem_of_mem_take hu)
      · rw [List.mem_singleton.1 hu]; exact hc
    · rcases List.mem_append.1 hu with hu | hu
      · rw [h.same hu]; exact h.left u (List.mem_of_mem_take hu)
      · rw [List.mem_singleton.1 hu]; exact hl
    · by_cases hi' : i < ixN w c
      · rw [List.getElem?_append_left (by omega)] at hi
        have hm := List.mem_of_getElem? hi
        have hnx : nxZ x y ls (bmp t (w.drop (ixN w c))) a = nxZ x y ls t a := by unfold nxZ awZ; rw [h.same hm]
        rw [List.getElem?_take, if_pos hi'] at hi
        have h1 := h.chain i a hi
        rw [hnx, ← h1, List.append_assoc]
        by_cases he : i + 1 < ixN w c
        · rw [List.getElem?_append_left (by omega), List.getElem?_take, if_pos he, List.getElem?_append_left (by omega)]
        · have e : i + 1 = ixN w c := by omega
          rw [e, ix_snoc, List.getElem?_append_right (by omega), hlen, Nat.sub_self]; rfl
      · have h2 := (List.getElem?_eq_some_iff.1 hi).1
        simp [hlen] at h2
        obtain rfl : i = ixN w c := by omega
        rw [List.getElem?_append_right (by omega), hlen, Nat.sub_self] at hi
        obtain rfl : c = a := by simpa using hi
        rw [List.getElem?_append_right (by simp [hlen])]
        simp [hlen]
  refine ⟨hP, ?_⟩
  have h16 := hP.w16
  have hw16 := h.w16
  rw [List.length_append, hlen] at h16
  simp only [List.length_singleton] at h16
  unfold msP
  rw [List.length_append, hlen]
  simp only [List.length_singleton]
  by_cases hm : c ∈ w
  · obtain ⟨k, rfl⟩ := Int.eq_ofNat_of_zero_le h.here.1
    have hn := h.ao.n16
    have h1 := h.left _ hm
    have h2 : bmp t (w.drop (ixN w k)) k = t k + 1 := bmp_in (h.c_in hm)
    have := sm_lt (f := fun j => (rwA ls j).length - bmp t (w.drop (ixN w k)) j) (g := fun j => (rwA ls j).length - t j) (c := k) (by omega) (n := cN x y) (by have := h.here; omega) fun j _ => by
      have := bmp_ge t (w.drop (ixN w k)) j
      omega
    omega
  · rw [ix_none hm]
    rw [ix_none hm] at h16
    rw [List.drop_length, bmp_nil]
    omega
end

/-! ### all walks -/
/-- The gaps of a walk's cells are opened. -/
def jnO (x y : Int) (ls : List (List Int)) (t : Int → Nat) (w : List Int) (o : Int) : Int := w.foldl (fun o u => sgZ x y o (gpZ x y u (awZ ls t u)) true) o
theorem jn_snoc (x y : Int) (ls : List (List Int)) (t : Int → Nat) (w : List Int) (u o : Int) : jnO x y ls t (w ++ [u]) o = sgZ x y (jnO x y ls t w o) (gpZ x y u (awZ ls t u)) true := by
  unfold jnO; rw [List.foldl_append]; rfl
theorem jn_next {x y : Int} {ls : List (List Int)} {t : Int → Nat} {w : List Int} {k : Nat} {u : Int} (h : w[k]? = some u) (o : Int) : jnO x y ls t (w.take (k + 1)) o = sgZ x y (jnO x y ls t (w.take k) o) (gpZ x y u (awZ ls t u)) true := by
  rw [take_one h, jn_snoc]
/-- What is left of the beginnings B. -/
def ppA (x y : Int) (ls : List (List Int)) : List Int → (Int → Nat) → List Int → Int → Option ((Int → Nat) × List Int × Int)
  | [], t, L, o => some (t, L, o)
  | c :: B, t, L, o => match pwW x y ls L 20000 [] c t with
    | none => none
    | some (w, t') => ppA x y ls B t' (L ++ w) (jnO x y ls t' w o)
theorem pp_none {x y : Int} {ls : List (List Int)} {B : List Int} {c : Int} {t : Int → Nat} {L : List Int} {o : Int} (h : pwW x y ls L 20000 [] c t = none) : ppA x y ls (c :: B) t L o = none := by
  unfold ppA; rw [h]
theorem pp_some {x y : Int} {ls : List (List Int)} {B w : List Int} {c : Int} {t t' : Int → Nat} {L : List Int} {o : Int} (h : pwW x y ls L 20000 [] c t = some (w, t')) : ppA x y ls (c :: B) t L o = ppA x y ls B t' (L ++ w) (jnO x y ls t' w o) := by
  conv => lhs; unfold ppA
  rw [h]
/-- Where walks begin. -/
def bgL (ls : List (List Int)) (l : List Int) : List Int := l ++ (List.range ls.length).map fun (k : Nat) => (k : Int)
def odB (x y : Int) (l : List Int) : Bool := decide (l.length ≤ 100) && !l.any fun u => !decide (0 ≤ u ∧ u < x * y)
def ppR (x y : Int) (ls : List (List Int)) (l : List Int) : Option ((Int → Nat) × List Int × Int) := ppA x y ls (bgL ls l) (fun _ => 0) [0] 0
/-- Whether it succeeds, the maze, how many arrows are used. -/
def poB (x y : Int) (ls : List (List Int)) (l : List Int) : Bool := aoB x y ls && odB x y l && (ppR x y ls l).isSome
def pmX (x y : Int) (ls : List (List Int)) (l : List Int) : Int := if poB x y ls l = true then x else 0
def pmY (x y : Int) (ls : List (List Int)) (l : List Int) : Int := if poB x y ls l = true then y else 0
def pmO (x y : Int) (ls : List (List Int)) (l : List Int) : Int := if poB x y ls l = true then ((ppR x y ls l).getD (fun _ => 0, [], 0)).2.2 else 0
def tot (t : Int → Nat) (N : Nat) : Nat := sm (fun k => t k) N
def auZ (x y : Int) (ls : List (List Int)) (l : List Int) : Int := if poB x y ls l = true then (tot ((ppR x y ls l).getD (fun _ => 0, [], 0)).1 ls.length : Nat) else -1
theorem tot_next {t : Int → Nat} {v : Int} {N : Nat} (h : 0 ≤ v ∧ v < (N : Int)) : tot (upd t v) N = tot t N + 1 := by
  obtain ⟨k, rfl⟩ := Int.eq_ofNat_of_zero_le h.1
  refine sm_one (c := k) (by simp [upd]) (fun j hj => ?_) (by omega)
  simp only [upd]
  rw [if_neg (by omega)]
theorem pm_bad {x y : Int} {ls : List (List Int)} {l : List Int} (h : poB x y ls l = false) : pmX x y ls l = 0 ∧ pmY x y ls l = 0 ∧ pmO x y ls l = 0 ∧ auZ x y ls l = -1 := by
  unfold pmX pmY pmO auZ; simp [h]
theorem pm_good {x y : Int} {ls : List (List Int)} {l : List Int} {t : Int → Nat} {L : List Int} {o : Int} (h1 : aoB x y ls = true) (h2 : odB x y l = true) (h : ppR x y ls l = some (t, L, o)) :
    poB x y ls l = true ∧ pmX x y ls l = x ∧ pmY x y ls l = y ∧ pmO x y ls l = o ∧ auZ x y ls l = (tot t ls.length : Nat) := by
  have hp : poB x y ls l = true := by unfold poB; rw [h1, h2, h]; rfl
  unfold pmX pmY pmO auZ
  rw [hp, h]
  simp
theorem po_no {x y : Int} {ls : List (List Int)} {l : List Int} (h : aoB x y ls = false ∨ odB x y l = false ∨ ppR x y ls l = none) : poB x y ls l = false := by
  unfold poB
  rcases h with h | h | h <;> rw [h] <;> simp
theorem ao_rows' {ls : List (List Int)} {k : Nat} (hk : k < ls.length) : ls[k]? = some (rwA ls k) := by
  unfold rwA; simp [List.getElem?_eq_getElem hk]
theorem ao_rows {x y : Int} {ls : List (List Int)} (h : Ao x y ls) {k : Nat} (hk : k < ls.length) : ls[k]? = some (rwA ls k) := by
  unfold rwA; simp [List.getElem?_eq_getElem hk]
end Go.Proofs.Ythakbjdkcdppjaa.popP
