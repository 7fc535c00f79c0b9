/- Cells that count as one: their rows and columns are added up one after the other, without the program. -/
import Derived.Test.YtnfnandpcjgmmaaCntF
import Derived.Test.YtnfnandpcjgmmaaPrgD
namespace Go.Proofs.Ytnfnandpcjgmmaa.couP
open Go.RowKit
open gridP gridQ bitP mazeP mazeQ reachP reachM reachN forest deadP detP trsP barP barQ trcP matP matX eucP cntP cntQ cntF
open walP (frB fr_iff nD)
set_option linter.unusedVariables false

/-- What each cell counts as: the least one of those that count as one. -/
structure Lb (F : Nat → Nat) (N : Nat) : Prop where
  le : ∀ i, i < N → F i ≤ i
  fix : ∀ i, i < N → F (F i) = F i
theorem lb_id (N : Nat) : Lb id N := ⟨fun i _ => Nat.le_refl i, fun _ _ => rfl⟩
/-- The cells that have a row when those from c on are done. -/
def rp (F : Nat → Nat) (N c : Nat) : List Nat := List.range c ++ (List.range' c (N - c)).filter (fun i => F i == i)
/-- What a cell counts as by then. -/
def kp (F : Nat → Nat) (c i : Nat) : Nat := if c ≤ i then F i else i
theorem rp_sub (F : Nat → Nat) {N c : Nat} (hc : c ≤ N) : (rp F N c).Sublist (List.range N) := by
  have e : List.range N = List.range c ++ List.range' c (N - c) := by
    have h := List.range'_append_1 (s := 0) (m := c) (n := N - c)
    rw [Nat.zero_add, show c + (N - c) = N by omega] at h
    rw [List.range_eq_range', List.range_eq_range', h]
  rw [e]
  exact (List.Sublist.refl _).append List.filter_sublist
theorem rp_nodup (F : Nat → Nat) {N c : Nat} (hc : c ≤ N) : (rp F N c).Nodup := List.Nodup.sublist (rp_sub F hc) List.nodup_range
theorem rp_le (F : Nat → Nat) {N c : Nat} (hc : c ≤ N) : (rp F N c).length ≤ N := by
  have := (rp_sub F hc).length_le
  rwa [List.length_range] at this
theorem rp_ge (F : Nat → Nat) (N c : Nat) : c ≤ (rp F N c).length := by unfold rp; rw [List.length_append, List.length_range]; omega
theorem rp_low (F : Nat → Nat) {N c i : Nat} (hi : i < c) : (rp F N c).getD i 0 = i := by
  unfold rp
  rw [List.getD_eq_getElem?_getD, List.getElem?_append_left (by rw [List.length_range]; exact hi), List.getElem?_range hi]; rfl
theorem rp_all (F : Nat → Nat) (N : Nat) : rp F N N = List.range N := by unfold rp; rw [Nat.sub_self]; simp
theorem rp_next (F : Nat → Nat) {N c : Nat} (hc : c < N) : rp F N c = List.range c ++ (if F c = c then [c] else []) ++ (List.range' (c + 1) (N - (c + 1))).filter (fun i => F i == i) := by
  unfold rp
  obtain ⟨m, hm⟩ : ∃ m, N - c = m + 1 := ⟨N - c - 1, by omega⟩
  rw [hm, List.range'_succ, List.filter_cons, List.append_assoc, show N - (c + 1) = m by omega]
  by_cases h : F c = c
  · rw [if_pos (by simpa using h), if_pos h]; rfl
  · rw [if_neg (by simpa using h), if_neg h]; rfl
theorem rp_same (F : Nat → Nat) {N c : Nat} (hc : c < N) (h : F c = c) : rp F N c = rp F N (c + 1) := by
  rw [rp_next F hc, if_pos h]
  unfold rp
  rw [List.range_succ]
theorem rp_less (F : Nat → Nat) {N c : Nat} (hc : c < N) (h : F c ≠ c) : rp F N c = (rp F N (c + 1)).eraseIdx c := by
  rw [rp_next F hc, if_neg h, List.append_nil]
  unfold rp
  rw [List.range_succ, List.append_assoc, List.eraseIdx_append_of_length_le (by simp), List.length_range, Nat.sub_self]
  rfl
theorem sk_get {R : List Nat} {k a : Nat} : (R.eraseIdx k).getD a 0 = R.getD (skN k a) 0 := by
  rw [List.getD_eq_getElem?_getD, List.getD_eq_getElem?_getD, List.getElem?_eraseIdx]
  unfold skN; split <;> rfl
theorem get_inj {R : List Nat} (h : R.Nodup) {i j : Nat} (hi : i < R.length) (hj : j < R.length) (e : R.getD i 0 = R.getD j 0) : i = j := by
  rw [List.getD_eq_getElem?_getD, List.getD_eq_getElem?_getD, List.getElem?_eq_getElem hi, List.getElem?_eq_getElem hj] at e
  have e : R[i] = R[j] := e
  have hp := List.pairwise_iff_getElem.1 h
  rcases Nat.lt_trichotomy i j with h1 | h1 | h1
  · exact absurd e (hp i j hi hj h1)
  · exact h1
  · exact absurd e.symm (hp j i hj hi h1)

/-! ### two ends become one -/
theorem lap_ends {G : Nat} {u v u' v' : Nat → Nat} {E : Nat → Bool} (hu : ∀ g, g < G → u g = u' g) (hv : ∀ g, g < G → v g = v' g) (i j : Nat) : lap G u v E i j = lap G u' v' E i j := by
  unfold lap
  congr 1
  refine List.map_congr_left fun g hg => ?_
  have hg := List.mem_range.1 hg
  unfold inc
  rw [hu g hg, hv g hg]
theorem inc_merge {u v u' v' : Nat → Nat} {c f g I : Nat} (hu : u' g = if u g = c then f else u g) (hv : v' g = if v g = c then f else v g) (hI : I ≠ c) : inc u' v' g I = inc u v g I + if I = f then inc u v g c else 0 := by
  unfold inc
  rw [hu, hv]
  by_cases h : I = f
  · subst h
    rw [if_pos rfl]
    by_cases h1 : u g = c <;> by_cases h2 : v g = c <;> by_cases h3 : u g = I <;> by_cases h4 : v g = I <;> simp_all <;> omega
  · rw [if_neg h]
    by_cases h1 : u g = c <;> by_cases h2 : v g = c <;> by_cases h3 : u g = I <;> by_cases h4 : v g = I <;> simp_all <;> omega
theorem lap_merge {G : Nat} {u v u' v' : Nat → Nat} {E : Nat → Bool} {c f I J : Nat} (hu : ∀ g, g < G → u' g = if u g = c then f else u g) (hv : ∀ g, g < G → v' g = if v g = c then f else v g) (hI : I ≠ c) (hJ : J ≠ c) :
    lap G u' v' E I J = lap G u v E I J + (if I = f then lap G u v E c J else 0) + (if J = f then lap G u v E I c + (if I = f then lap G u v E c c else 0) else 0) := by
  have key : ∀ g ∈ List.range G, (if E g = true then inc u' v' g I * inc u' v' g J else 0) = if E g = true then (inc u v g I + if I = f then inc u v g c else 0) * (inc u v g J + if J = f then inc u v g c else 0) else 0 := fun g hg => by
    have hg := List.mem_range.1 hg
    rw [inc_merge (hu g hg) (hv g hg) hI, inc_merge (hu g hg) (hv g hg) hJ]
  have e : lap G u' v' E I J = ((List.range G).map fun g => if E g = true then (inc u v g I + if I = f then inc u v g c else 0) * (inc u v g J + if J = f then inc u v g c else 0) else 0).sum := by
    unfold lap
    rw [List.map_congr_left key]
  rw [e]
  by_cases h1 : I = f <;> by_cases h2 : J = f
  · simp only [if_pos h1, if_pos h2]
    unfold lap
    rw [← sum_add, ← sum_add, ← sum_add]
    congr 1
    refine List.map_congr_left fun g _ => ?_
    split
    · rw [Int.mul_add, Int.add_mul, Int.add_mul]
    · rfl
  · simp only [if_pos h1, if_neg h2, Int.add_zero]
    unfold lap
    rw [← sum_add]
    congr 1
    refine List.map_congr_left fun g _ => ?_
    split
    · rw [Int.add_mul]
    · rfl
  · simp only [if_neg h1, if_pos h2, Int.add_zero]
    unfold lap
    rw [← sum_add]
    congr 1
    refine List.map_congr_left fun g _ => ?_
    split
    · rw [Int.mul_add]
    · rfl
  · simp only [if_neg h1, if_neg h2, Int.add_zero]
    rfl
theorem kp_next {F : Nat → Nat} {N c : Nat} (hF : Lb F N) (h : F c ≠ c) {i : Nat} (hi : i < N) : kp F c i = if kp F (c + 1) i = c then F c else kp F (c + 1) i := by
  unfold kp
  rcases Nat.lt_trichotomy i c with h1 | h1 | h1
  · rw [if_neg (show ¬ c ≤ i by omega), if_neg (show ¬ c + 1 ≤ i by omega), if_neg (show ¬ i = c by omega)]
  · subst h1; rw [if_pos (Nat.le_refl _), if_neg (show ¬ i + 1 ≤ i by omega), if_pos rfl]
  · have hne : F i ≠ c := fun e => h (by rw [← e]; exact hF.fix i hi)
    rw [if_pos (show c ≤ i by omega), if_pos (show c + 1 ≤ i by omega), if_neg hne]
theorem kp_same {F : Nat → Nat} {c : Nat} (h : F c = c) (i : Nat) : kp F c i = kp F (c + 1) i := by
  unfold kp
  rcases Nat.lt_trichotomy i c with h1 | h1 | h1
  · rw [if_neg (by omega), if_neg (by omega)]
  · subst h1; rw [if_pos (Nat.le_refl _), if_neg (by omega), h]
  · rw [if_pos (by omega), if_pos (by omega)]

/-! ### lists of lists -/
theorem mfn_er {ms : List (List Int)} {k a b : Nat} (hk : k < ms.length) (ha : a < ms.length - 1) : mfn ((ms.eraseIdx k).map fun l => l.eraseIdx k) a b = mfn ms (skN k a) (skN k b) := by
  have hs : skN k a < ms.length := by unfold skN; split <;> omega
  have hl := List.getElem?_eq_getElem hs
  have e1 : ((ms.eraseIdx k).map fun l => l.eraseIdx k)[a]? = some ((ms[skN k a]'hs).eraseIdx k) := by
    rw [List.getElem?_map, List.getElem?_eraseIdx]
    have : (if a < k then ms[a]? else ms[a + 1]?) = ms[skN k a]? := by unfold skN; split <;> rfl
    rw [this, hl]; rfl
  have e2 : ((ms.eraseIdx k).map fun l => l.eraseIdx k).getD a [] = (ms[skN k a]'hs).eraseIdx k := by rw [List.getD_eq_getElem?_getD, e1]; rfl
  have e3 : ms.getD (skN k a) [] = ms[skN k a]'hs := by rw [List.getD_eq_getElem?_getD, hl]; rfl
  unfold mfn
  rw [e2, e3]
  rw [List.getD_eq_getElem?_getD, List.getElem?_eraseIdx, List.getD_eq_getElem?_getD]
  unfold skN; split <;> rfl
theorem er_len {ms : List (List Int)} {n k : Nat} (hn : ms.length = n) (hr : ∀ l ∈ ms, l.length = n) (hk : k < n) : ((ms.eraseIdx k).map fun l => l.eraseIdx k).length = n - 1 ∧ ∀ l ∈ (ms.eraseIdx k).map fun l => l.eraseIdx k, l.length = n - 1 := by
  refine ⟨by rw [List.length_map, List.length_eraseIdx, if_pos (by omega), hn], fun l hl => ?_⟩
  obtain ⟨m, hm, rfl⟩ := List.mem_map.1 hl
  rw [List.length_eraseIdx, if_pos (by rw [hr m (List.mem_of_mem_eraseIdx hm)]; exact hk), hr m (List.mem_of_mem_eraseIdx hm)]
/-- A row's number at f becomes its sum with the one at c. -/
def cA (f c : Nat) (l : List Int) : List Int := l.set f (wrap64 (l.getD f 0 + l.getD c 0))
theorem cA_len (f c : Nat) (l : List Int) : (cA f c l).length = l.length := by unfold cA; rw [List.length_set]
theorem mfn_col {ms : List (List Int)} {f c i j : Nat} (hi : i < ms.length) (hf : ∀ l ∈ ms, f < l.length) : mfn (ms.map (cA f c)) i j = if j = f then wrap64 (mfn ms i f + mfn ms i c) else mfn ms i j := by
  have hl := List.getElem?_eq_getElem hi
  have h2 : (ms.map (cA f c)).getD i [] = cA f c (ms[i]'hi) := by rw [List.getD_eq_getElem?_getD, List.getElem?_map, hl]; rfl
  have h3 : ms.getD i [] = ms[i]'hi := by rw [List.getD_eq_getElem?_getD, hl]; rfl
  unfold mfn
  rw [h2, h3]
  unfold cA
  by_cases e : j = f
  · subst e; rw [if_pos rfl, List.getD_eq_getElem?_getD, List.getElem?_set_self (hf _ (List.getElem_mem hi))]; rfl
  · rw [if_neg e, List.getD_eq_getElem?_getD, List.getElem?_set_ne (fun h => e h.symm), ← List.getD_eq_getElem?_getD]
/-- The first i rows have been changed. -/
def mp (h : List Int → List Int) (ms : List (List Int)) (i : Nat) : List (List Int) := (ms.take i).map h ++ ms.drop i
theorem mp_get {h : List Int → List Int} {ms : List (List Int)} {i : Nat} (hi : i ≤ ms.length) (j : Nat) : (mp h ms i)[j]? = if j < i then (ms[j]?).map h else ms[j]? := by
  have hl : ((ms.take i).map h).length = i := by rw [List.length_map, List.length_take]; omega
  unfold mp
  split
  · rename_i h
    rw [List.getElem?_append_left (by omega), List.getElem?_map, List.getElem?_take_of_lt h]
  · rename_i h
    rw [List.getElem?_append_right (by omega), hl, List.getElem?_drop, show i + (j - i) = j by omega]
theorem mp_zero (h : List Int → List Int) (ms : List (List Int)) : mp h ms 0 = ms := by simp [mp]
theorem mp_all (h : List Int → List Int) (ms : List (List Int)) : mp h ms ms.length = ms.map h := by simp [mp]
theorem mp_len {h : List Int → List Int} {ms : List (List Int)} {i : Nat} (hi : i ≤ ms.length) : (mp h ms i).length = ms.length := by
  unfold mp; rw [List.length_append, List.length_map, List.length_take, List.length_drop]; omega
theorem mp_next {h : List Int → List Int} {ms : List (List Int)} {i : Nat} {l : List Int} (hl : ms[i]? = some l) : mp h ms (i + 1) = (mp h ms i).set i (h l) := by
  have hi := (List.getElem?_eq_some_iff.1 hl).1
  apply List.ext_getElem?
  intro j
  rw [mp_get (by omega)]
  by_cases hj : j = i
  · subst hj
    rw [if_pos (by omega), hl, List.getElem?_set_self (by rw [mp_len (by omega)]; exact hi)]; rfl
  · rw [List.getElem?_set_ne (fun e => hj e.symm), mp_get (by omega)]
    by_cases h : j < i
    · rw [if_pos (by omega), if_pos h]
    · rw [if_neg (by omega), if_neg h]

/-! ### what stands between the rounds -/
theorem w2 (a b : Int) : wrap64 (wrap64 a + wrap64 b) = wrap64 (a + b) := by rw [wrap_add, wrap_add']
section
variable (G : Nat) (u v : Nat → Nat) (E : Nat → Bool) (F : Nat → Nat) (N : Nat)
structure Cm (c : Nat) (ms : List (List Int)) : Prop where
  len : ms.length = (rp F N c).length
  row : ∀ l ∈ ms, l.length = (rp F N c).length
  ent : ∀ a b, a < (rp F N c).length → b < (rp F N c).length → mfn ms a b = wrap64 (lap G (fun g => kp F c (u g)) (fun g => kp F c (v g)) E ((rp F N c).getD a 0) ((rp F N c).getD b 0))
variable {G u v E F N}
theorem cm_start {ms : List (List Int)} (h1 : ms.length = N) (h2 : ∀ l ∈ ms, l.length = N) (hu : ∀ g, g < G → u g < N) (hv : ∀ g, g < G → v g < N) (h3 : ∀ i j, i < N → j < N → mfn ms i j = wrap64 (lap G u v E i j)) : Cm G u v E F N N ms := by
  have hr : (rp F N N).length = N := by rw [rp_all, List.length_range]
  refine ⟨by rw [hr, h1], fun l hl => by rw [hr, h2 l hl], fun a b ha hb => ?_⟩
  rw [hr] at ha hb
  rw [rp_low F ha, rp_low F hb, h3 a b ha hb, lap_ends (u := fun g => kp F N (u g)) (v := fun g => kp F N (v g)) (u' := u) (v' := v)]
  · intro g hg; unfold kp; rw [if_neg (by have := hu g hg; omega)]
  · intro g hg; unfold kp; rw [if_neg (by have := hv g hg; omega)]
theorem Cm.same {c : Nat} {ms : List (List Int)} (h : Cm G u v E F N (c + 1) ms) (hc : c < N) (he : F c = c) : Cm G u v E F N c ms := by
  have hr := rp_same F hc he
  have hk : kp F c = kp F (c + 1) := funext (kp_same he)
  exact ⟨by rw [hr]; exact h.len, fun l hl => by rw [hr]; exact h.row l hl, by rw [hr, hk]; exact h.ent⟩
theorem Cm.step {c : Nat} {ms : List (List Int)} {lf lc : List Int} (h : Cm G u v E F N (c + 1) ms) (hF : Lb F N) (hc : c < N) (hne : F c ≠ c) (hu : ∀ g, g < G → u g < N) (hv : ∀ g, g < G → v g < N) (h1 : ms[F c]? = some lf) (h2 : ms[c]? = some lc) :
    Cm G u v E F N c (((((ms.set (F c) (adL lf lc 1)).map (cA (F c) c)).eraseIdx c).map fun l => l.eraseIdx c)) := by
  obtain ⟨hl, hr, he⟩ := h
  have hfc : F c < c := by have := hF.le c hc; omega
  have hge := rp_ge F N (c + 1)
  have hnd := rp_nodup F (N := N) (c := c + 1) (by omega)
  have hrl : (rp F N c).length = (rp F N (c + 1)).length - 1 := by rw [rp_less F hc hne, List.length_eraseIdx, if_pos (by omega)]
  have hrg : ∀ a, (rp F N c).getD a 0 = (rp F N (c + 1)).getD (skN c a) 0 := fun a => by rw [rp_less F hc hne]; exact sk_get
  have hRf := rp_low F (N := N) (show F c < c + 1 by omega)
  have hRc := rp_low F (N := N) (show c < c + 1 by omega)
  have m1 := hr lf (List.mem_of_getElem? h1)
  have m2 := hr lc (List.mem_of_getElem? h2)
  generalize hR : rp F N (c + 1) = R at *
  have hs1 : (ms.set (F c) (adL lf lc 1)).length = R.length := by rw [List.length_set, hl]
  have hs2 : ∀ l ∈ ms.set (F c) (adL lf lc 1), l.length = R.length := fun l hm => by
    rcases List.mem_or_eq_of_mem_set hm with h | h
    · exact hr l h
    · rw [h, ad_len (by omega), m1]
  have hs3 : ((ms.set (F c) (adL lf lc 1)).map (cA (F c) c)).length = R.length := by rw [List.length_map, hs1]
  have hs4 : ∀ l ∈ (ms.set (F c) (adL lf lc 1)).map (cA (F c) c), l.length = R.length := fun l hm => by
    obtain ⟨k, hk, rfl⟩ := List.mem_map.1 hm
    rw [cA_len, hs2 k hk]
  obtain ⟨q1, q2⟩ := er_len (k := c) hs3 hs4 (by omega)
  refine ⟨by rw [q1, hrl], fun l hm => by rw [q2 l hm, hrl], fun a b ha hb => ?_⟩
  rw [hrl] at ha hb
  have hsa : skN c a < R.length := by unfold skN; split <;> omega
  have hsb : skN c b < R.length := by unfold skN; split <;> omega
  have hna : skN c a ≠ c := sk_ne c a
  have hnb : skN c b ≠ c := sk_ne c b
  rw [mfn_er (by omega) (by omega), mfn_col (by omega) (fun l hm => by rw [hs2 l hm]; omega), hrg, hrg]
  generalize skN c a = i at *
  generalize skN c b = j at *
  have g1 : ∀ j, mfn ms (F c) j = lf.getD j 0 := fun j => by simp [mfn, List.getD_eq_getElem?_getD, h1]
  have g2 : ∀ j, mfn ms c j = lc.getD j 0 := fun j => by simp [mfn, List.getD_eq_getElem?_getD, h2]
  have hset : ∀ k j, j < R.length → mfn (ms.set (F c) (adL lf lc 1)) k j = if k = F c then wrap64 (mfn ms (F c) j + mfn ms c j) else mfn ms k j := fun k j hj => by
    rw [mfn_set (by omega)]
    split
    · rw [ad_get (by omega) (by omega), ← g1, ← g2, Int.one_mul, wrap_add']
    · rfl
  have iI : ∀ {i}, i < R.length → (i = F c ↔ R.getD i 0 = F c) := fun {i} hi => ⟨fun e => by rw [e]; exact hRf, fun e => get_inj hnd hi (by omega) (by rw [e, hRf])⟩
  have iC : ∀ {i}, i < R.length → i ≠ c → R.getD i 0 ≠ c := fun {i} hi hn e => hn (get_inj hnd hi (by omega) (by rw [e, hRc]))
  have hm := lap_merge (G := G) (u := fun g => kp F (c + 1) (u g)) (v := fun g => kp F (c + 1) (v g)) (u' := fun g => kp F c (u g)) (v' := fun g => kp F c (v g)) (E := E) (f := F c)
    (fun g hg => kp_next hF hne (hu g hg)) (fun g hg => kp_next hF hne (hv g hg)) (iC hsa hna) (iC hsb hnb)
  have ei := he i j hsa hsb
  have e1 := he c j (by omega) hsb
  have e2 := he i c hsa (by omega)
  have e3 := he c c (by omega) (by omega)
  rw [hRc] at e1 e2 e3
  rw [hm, hset i j hsb, hset i (F c) (by omega), hset i c (by omega)]
  by_cases c1 : i = F c <;> by_cases c2 : j = F c
  · have d1 := (iI hsa).1 c1
    have d2 := (iI hsb).1 c2
    simp only [if_pos c1, if_pos c2, if_pos d1, if_pos d2]
    subst c1 c2
    rw [ei, e1, e2, e3]
    simp only [w2]
  · have d1 := (iI hsa).1 c1
    have d2 : ¬ R.getD j 0 = F c := fun e => c2 ((iI hsb).2 e)
    simp only [if_pos c1, if_neg c2, if_pos d1, if_neg d2]
    subst c1
    rw [ei, e1, w2, Int.add_zero]
  · have d1 : ¬ R.getD i 0 = F c := fun e => c1 ((iI hsa).2 e)
    have d2 := (iI hsb).1 c2
    simp only [if_neg c1, if_pos c2, if_neg d1, if_pos d2]
    subst c2
    rw [ei, e2, w2, Int.add_zero, Int.add_zero]
  · have d1 : ¬ R.getD i 0 = F c := fun e => c1 ((iI hsa).2 e)
    have d2 : ¬ R.getD j 0 = F c := fun e => c2 ((iI hsb).2 e)
    simp only [if_neg c1, if_neg c2, if_neg d1, if_neg d2]
    rw [ei, Int.add_zero, Int.add_zero]
end

/-! ### what comes out -/
/-- The value that the counting ends in. -/
def coV (G : Nat) (u v : Nat → Nat) (E : Nat → Bool) (F : Nat → Nat) (N : Nat) : Int :=
  wrap64 (dm (fun a b => lap G (fun g => F (u g)) (fun g => F (v g)) E ((rp F N 0).getD (a + 1) 0) ((rp F N 0).getD (b + 1) 0)) (List.range ((rp F N 0).length - 1)))
theorem rp_pos {F : Nat → Nat} {N : Nat} (hF : Lb F N) (hN : 0 < N) : 0 < (rp F N 0).length := by
  rw [rp_next F hN, if_pos (by have := hF.le 0 hN; omega)]; simp
theorem Cm.done {G : Nat} {u v : Nat → Nat} {E : Nat → Bool} {F : Nat → Nat} {N : Nat} {ms : List (List Int)} (h : Cm G u v E F N 0 ms) (hF : Lb F N) (hN : 0 < N) :
    wrap64 (dm (mfn ((ms.eraseIdx 0).map fun l => l.eraseIdx 0)) (List.range (ms.length - 1))) = coV G u v E F N := by
  have hp := rp_pos hF hN
  unfold coV
  rw [h.len]
  refine dm_wrap fun a ha b hb => ?_
  have ha := List.mem_range.1 ha
  have hb := List.mem_range.1 hb
  rw [mfn_er (by rw [h.len]; exact hp) (by rw [h.len]; exact ha)]
  have e : ∀ k, skN 0 k = k + 1 := fun k => by unfold skN; rw [if_neg (by omega)]
  rw [e, e, h.ent (a + 1) (b + 1) (by omega) (by omega), wrap_twice]
  have hk : kp F 0 = F := funext fun i => by unfold kp; rw [if_pos (Nat.zero_le _)]
  rw [hk]
section
variable {x y : Int}
theorem cnt_filter (p : Nat → Bool) : ∀ n, ((List.range n).filter p).length = cnt p n
  | 0 => rfl
  | n + 1 => by
    rw [List.range_succ, List.filter_append, List.length_append, cnt_filter p n]
    show _ = cnt p n + _
    by_cases h : p n = true
    · rw [if_pos h, List.filter_cons_of_pos h]; rfl
    · rw [if_neg h, List.filter_cons_of_neg h]; rfl
theorem rp_zero (F : Nat → Nat) (N : Nat) : rp F N 0 = (List.range N).filter (fun i => F i == i) := by
  unfold rp; rw [Nat.sub_zero, List.range_zero, List.nil_append, List.range_eq_range']
/-- The parts, by the least cells of theirs. -/
theorem lb_parts (hk : OkZ x y) {c : Nat} (hc : c < 2 ^ gN x y) (hlp : lp x y c = 0) {F : Nat → Nat} (hF : Lb F (cN x y)) (hcn : ∀ i j, i < cN x y → j < cN x y → (F i = F j ↔ Cn x y c i j)) :
    Parts x y c (rp F (cN x y) 0).length (fun i => (rp F (cN x y) 0).idxOf (F i)) ∧ ∀ i, i < cN x y → (rp F (cN x y) 0).getD ((rp F (cN x y) 0).idxOf (F i)) 0 = F i := by
  have hlen : (rp F (cN x y) 0).length = pt x y c := by
    rw [rp_zero, cnt_filter]
    unfold pt
    rw [cp_cnt]
    refine cnt_ext fun k hkc => ?_
    rw [Bool.eq_iff_iff, least_iff hkc, beq_iff_eq]
    constructor
    · intro e j hj h
      have h1 := (hcn j k (by omega) hkc).2 (cn_symm h)
      have h2 := hF.le j (by omega)
      omega
    · intro h
      apply Classical.byContradiction
      intro hne
      have h1 := hF.le k hkc
      exact h (F k) (by omega) (cn_symm ((hcn (F k) k (by omega) hkc).1 (hF.fix k hkc)))
  have hmem : ∀ i, i < cN x y → F i ∈ rp F (cN x y) 0 := fun i hi => by
    rw [rp_zero, List.mem_filter]
    exact ⟨List.mem_range.2 (Nat.lt_of_le_of_lt (hF.le i hi) hi), by rw [beq_iff_eq]; exact hF.fix i hi⟩
  have hget : ∀ i, i < cN x y → (rp F (cN x y) 0).getD ((rp F (cN x y) 0).idxOf (F i)) 0 = F i := fun i hi => by
    have hlt := List.idxOf_lt_length_iff.2 (hmem i hi)
    rw [List.getD_eq_getElem?_getD, List.getElem?_eq_getElem hlt]
    exact List.getElem_idxOf hlt
  refine ⟨⟨fun a ha => List.idxOf_lt_length_iff.2 (hmem a ha), fun a b ha hb => ?_, fun t ht => ?_, ?_⟩, hget⟩
  · rw [← hcn a b ha hb]
    exact ⟨fun e => by have e : (rp F (cN x y) 0).idxOf (F a) = (rp F (cN x y) 0).idxOf (F b) := e; rw [← hget a ha, ← hget b hb, e], fun e => by show (rp F (cN x y) 0).idxOf (F a) = _; rw [e]⟩
  · obtain ⟨a, ha⟩ : ∃ a, (rp F (cN x y) 0)[t]? = some a := ⟨_, List.getElem?_eq_getElem ht⟩
    have hm2 := List.mem_of_getElem? ha
    rw [rp_zero, List.mem_filter, beq_iff_eq] at hm2
    have hlt := List.mem_range.1 hm2.1
    have hfx := hm2.2
    refine ⟨a, hlt, ?_⟩
    show (rp F (cN x y) 0).idxOf (F a) = t
    refine get_inj (rp_nodup F (Nat.zero_le _)) (List.idxOf_lt_length_iff.2 (hmem _ hlt)) ht ?_
    rw [hget _ hlt, hfx, List.getD_eq_getElem?_getD, ha]; rfl
  · rw [hlen]
    unfold lp at hlp
    omega
/-- IT IS THE NUMBER OF PERFECT MAZES with the gaps c and none of b. -/
theorem co_trees (hk : OkZ x y) {c b : Nat} {E : Nat → Bool} (hc : c < 2 ^ gN x y) (hcb : ∀ g, g < gN x y → bt c g = 1 → bt b g = 0) (hE : ∀ g, g < gN x y → (E g = true ↔ bt b g = 0)) (hlp : lp x y c = 0) {F : Nat → Nat} (hF : Lb F (cN x y)) (hcn : ∀ i j, i < cN x y → j < cN x y → (F i = F j ↔ Cn x y c i j)) :
    coV (gN x y) (aN x y) (bN x y) E F (cN x y) = (tcN x y c b : Int) := by
  obtain ⟨hP, hget⟩ := lb_parts hk hc hlp hF hcn
  have hp := rp_pos hF (c16 hk).1
  have hnd := rp_nodup F (N := cN x y) (c := 0) (Nat.zero_le _)
  have hv := okm hk hc
  generalize hR : rp F (cN x y) 0 = R at *
  have hi : ∀ g, g < gN x y → aN x y g < cN x y ∧ bN x y g < cN x y := fun g hg => by
    obtain ⟨e1, e2, -, -⟩ := ends_lt hk hg
    exact ⟨by omega, e2⟩
  have h1 := tc_minor (c := c) (b := b) (n := R.length) (κ := fun i => R.idxOf (F i)) (E := fun g => E g && decide (bt c g = 0)) (I := (List.range (R.length - 1)).map (· + 1)) (r := 0) hk hc hcb
    (fun g hg => by rw [Bool.and_eq_true, hE g hg, decide_eq_true_iff]; exact ⟨fun h => ⟨h.2, h.1⟩, fun h => ⟨h.2, h.1⟩⟩) hP hp
    (map_nodup List.nodup_range fun i j _ _ h => by omega)
    (fun t ht => by
      rw [List.mem_map]
      exact ⟨fun ⟨a, _, e⟩ => by omega, fun hne => ⟨t - 1, List.mem_range.2 (by omega), by omega⟩⟩)
    (by rw [List.length_map, List.length_range]; omega)
    (fun t ht => by
      obtain ⟨a, ha, rfl⟩ := List.mem_map.1 ht
      have := List.mem_range.1 ha; omega)
  rw [h1, ← dm_map]
  have h2 : dm (fun a b => lap (gN x y) (fun g => R.idxOf (F (aN x y g))) (fun g => R.idxOf (F (bN x y g))) (fun g => E g && decide (bt c g = 0)) (a + 1) (b + 1)) (List.range (R.length - 1)) = dm (fun a b => lap (gN x y) (fun g => F (aN x y g)) (fun g => F (bN x y g)) E (R.getD (a + 1) 0) (R.getD (b + 1) 0)) (List.range (R.length - 1)) := by
    refine dm_congr fun a ha b hb => ?_
    have ha := List.mem_range.1 ha
    have hb := List.mem_range.1 hb
    unfold lap
    congr 1
    refine List.map_congr_left fun g hg => ?_
    have hg := List.mem_range.1 hg
    obtain ⟨g1, g2⟩ := hi g hg
    have hix : ∀ {i k}, i < cN x y → k < R.length → (R.idxOf (F i) = k ↔ F i = R.getD k 0) := fun {i k} hi hk => by
      constructor
      · intro e; rw [← e, hget i hi]
      · intro e
        exact get_inj hnd (hP.1 i hi) hk (by rw [hget i hi, e])
    have hin : ∀ k, k < R.length → inc (fun g => R.idxOf (F (aN x y g))) (fun g => R.idxOf (F (bN x y g))) g k = inc (fun g => F (aN x y g)) (fun g => F (bN x y g)) g (R.getD k 0) := fun k hk => by
      unfold inc
      simp only [hix g1 hk, hix g2 hk]
    rw [hin (a + 1) (by omega), hin (b + 1) (by omega)]
    show (if (E g && decide (bt c g = 0)) = true then _ else _) = _
    by_cases hbc : bt c g = 0
    · rw [decide_eq_true hbc, Bool.and_true]
    · rw [decide_eq_false hbc, Bool.and_false]
      have hb1 : bt c g = 1 := by have := bt_le c g; omega
      have e : F (aN x y g) = F (bN x y g) := (hcn _ _ g1 g2).2 (cn_gap hv hg hb1)
      have z : ∀ k, inc (fun g => F (aN x y g)) (fun g => F (bN x y g)) g k = 0 := fun k => by
        unfold inc
        show (if F (aN x y g) = k then (1 : Int) else 0) - (if F (bN x y g) = k then 1 else 0) = 0
        rw [e]; omega
      rw [z, z]; simp
  have h3 : wrap64 (tcN x y c b : Int) = (tcN x y c b : Int) := by
    have h1 : tcN x y c b ≤ 2 ^ gN x y := cnt_most _ _
    have h2 : 2 ^ gN x y ≤ 2 ^ 24 := Nat.pow_le_pow_right (by decide) (by have := gps_bd hk.1 hk.2.1 hk.2.2.1 hk.2.2.2; unfold gN; omega)
    unfold wrap64; omega
  unfold coV
  rw [hR, ← h2, dm_map, ← h1]
  rw [h3]
end
end Go.Proofs.Ytnfnandpcjgmmaa.couP
