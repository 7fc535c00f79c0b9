/- The matrix of a maze as the model writes it: its numbers, and that it is valid. -/
import Derived.Test.YtnfnandpcjgmmaaCntP
import Derived.Test.YtnfnandpcjgmmaaModD
namespace Go.Proofs.Ytnfnandpcjgmmaa.cntQ
open gridP gridQ bitP mazeP mazeQ reachP reachM reachN forest deadP detP trsP barP barQ trcP matP matR cntP
set_option linter.unusedVariables false

theorem fold_get (f : Int → Nat) (j : Nat) : ∀ (ds : List Int) (r : List Int), (∀ d ∈ ds, f d < r.length) → (ds.foldl (fun r d => r.set (f d) (-1)) r).getD j 0 = if ds.any (fun d => f d == j) = true then -1 else r.getD j 0
  | [], r, _ => rfl
  | d :: ds, r, h => by
    rw [List.foldl_cons, fold_get f j ds _ (fun e he => by rw [List.length_set]; exact h e (List.mem_cons_of_mem _ he)), List.any_cons]
    by_cases h1 : ds.any (fun d => f d == j) = true
    · rw [if_pos h1, if_pos (by rw [h1]; simp)]
    · rw [if_neg h1]
      have h2 : ds.any (fun d => f d == j) = false := by simpa using h1
      rw [h2, Bool.or_false]
      by_cases h3 : f d = j
      · rw [if_pos (by simpa using h3), ← h3, List.getD_eq_getElem?_getD, List.getElem?_set_self (h d (by simp))]; rfl
      · rw [if_neg (by simpa using h3), List.getD_eq_getElem?_getD, List.getElem?_set_ne h3, ← List.getD_eq_getElem?_getD]
theorem wl_has {x y z k : Int} : ∀ {n q : Nat}, q < n → 0 ≤ stZ x y z k (q : Int) → (q : Int) ∈ wlN x y z k n
  | 0, q, h, _ => absurd h (Nat.not_lt_zero q)
  | n + 1, q, h, hs => by
    unfold wlN
    by_cases e : q = n
    · subst e; rw [if_pos hs]; simp
    · have := wl_has (n := n) (by omega) hs
      split
      · exact List.mem_append.2 (.inl this)
      · exact this

/-! ### sums of absolute values -/
theorem abS_cons (z : Int) (l : List Int) : abS (z :: l) = max z (-z) + abS l := by simp [abS]
theorem abS_set : ∀ (l : List Int) (k : Nat) (z : Int), abS (l.set k z) ≤ abS l + max z (-z)
  | [], k, z => by simp [abS]; omega
  | a :: l, 0, z => by rw [List.set_cons_zero, abS_cons, abS_cons]; omega
  | a :: l, k + 1, z => by
    rw [List.set_cons_succ, abS_cons, abS_cons]
    have := abS_set l k z
    omega
theorem abS_pos : ∀ l : List Int, 0 ≤ abS l
  | [] => by simp [abS]
  | z :: l => by rw [abS_cons]; have := abS_pos l; omega
theorem abS_mem : ∀ {l : List Int} {z : Int}, z ∈ l → max z (-z) ≤ abS l
  | a :: l, z, h => by
    rw [abS_cons]
    have := abS_pos l
    rcases List.mem_cons.1 h with rfl | h
    · omega
    · have := abS_mem h; omega
theorem abS_erase : ∀ (l : List Int) (k : Nat), abS (l.eraseIdx k) ≤ abS l
  | [], k => by simp [abS]
  | a :: l, 0 => by rw [List.eraseIdx_cons_zero, abS_cons]; omega
  | a :: l, k + 1 => by
    rw [List.eraseIdx_cons_succ, abS_cons, abS_cons]
    have := abS_erase l k
    omega
theorem abS_zeros : ∀ n, abS (List.replicate n 0) = 0
  | 0 => rfl
  | n + 1 => by rw [List.replicate_succ, abS_cons, abS_zeros n]; rfl
theorem abS_fold (f : Int → Nat) : ∀ (ds : List Int) (r : List Int), abS (ds.foldl (fun r d => r.set (f d) (-1)) r) ≤ abS r + ds.length
  | [], r => by simp
  | d :: ds, r => by
    rw [List.foldl_cons]
    have h1 := abS_fold f ds (r.set (f d) (-1))
    have h2 := abS_set r (f d) (-1)
    have : max (-1 : Int) (- -1) = 1 := by decide
    rw [List.length_cons]
    omega
theorem lr_abs (x y z : Int) (n k : Nat) : abS (lpr x y z n k) ≤ 8 := by
  have hl := wlN_len x y z k 4
  unfold lpr lrN
  have h1 := abS_fold (fun d => (stZ x y z k d).toNat) ((wlZ x y z k).take (wlZ x y z k).length) ((List.replicate n 0).set k ((wlZ x y z k).length : Int))
  have h2 := abS_set (List.replicate n 0) k ((wlZ x y z k).length : Int)
  rw [abS_zeros] at h2
  rw [List.take_length] at h1 ⊢
  have h3 : (wlZ x y z k).length ≤ 4 := hl
  omega

section
variable {x y : Int}
theorem lp_len' (hk : OkZ x y) {o : Nat} (ho : o < 2 ^ gN x y) : (lpZ x y o).length = cN x y ∧ ∀ l ∈ lpZ x y o, l.length = cN x y ∧ abS l ≤ 8 := by
  unfold lpZ
  rw [if_pos (show okB x y o = true from decide_eq_true (okm hk ho))]
  refine ⟨by simp [cN], fun l hl => ?_⟩
  obtain ⟨k, -, rfl⟩ := List.mem_map.1 hl
  exact ⟨by unfold lpr; rw [lr_len]; rfl, lr_abs _ _ _ _ _⟩
theorem sq_of {ls : List (List Int)} (h : ls.length ≤ 16) (h' : ∀ l ∈ ls, l.length = ls.length ∧ abS l ≤ 8) : sqB ls = true := by
  unfold sqB
  rw [Bool.and_eq_true, List.all_eq_true]
  refine ⟨fun l hl => ?_, decide_eq_true h⟩
  obtain ⟨h1, h2⟩ := h' l hl
  unfold rowB
  rw [Bool.and_eq_true, Bool.and_eq_true, List.all_eq_true]
  refine ⟨⟨decide_eq_true h1, fun z hz => decide_eq_true ?_⟩, decide_eq_true (by omega)⟩
  have := abS_mem hz
  omega
theorem c16 (hk : OkZ x y) : 1 ≤ cN x y ∧ cN x y ≤ 16 := by
  have := (mul_bd x y hk.1 hk.2.1 hk.2.2.1 hk.2.2.2).1
  unfold cN; omega
theorem lp_sq (hk : OkZ x y) {o : Nat} (ho : o < 2 ^ gN x y) : sqB (lpZ x y o) = true := by
  obtain ⟨h1, h2⟩ := lp_len' hk ho
  have := c16 hk
  exact sq_of (by omega) fun l hl => ⟨by rw [h1]; exact (h2 l hl).1, (h2 l hl).2⟩
theorem to_self {o i : Nat} : toB x y o i i = false := by
  unfold toB
  rw [List.any_eq_false]
  intro q _ h
  have e : stN x y o i q = (i : Int) := by simpa using h
  have h0 : 0 ≤ stN x y o i q := by omega
  rcases nb_ne (x := x) (y := y) i q with h1 | h1
  · exact h1 (by rw [← st_nb h0, e])
  · rw [← st_nb h0] at h1; omega
/-- The numbers of the matrix. -/
theorem lp_mfn (hk : OkZ x y) {o i j : Nat} (ho : o < 2 ^ gN x y) (hi : i < cN x y) (hj : j < cN x y) : mfn (lpZ x y o) i j = lap (gN x y) (aN x y) (bN x y) (opE o) i j := by
  have hv := okm hk ho
  rw [lap_is hk ho hi]
  unfold mfn lpZ
  rw [if_pos (show okB x y o = true from decide_eq_true hv)]
  have hn : (x * y).toNat = cN x y := rfl
  have e0 : ((List.range (cN x y)).map (lpr x y o (cN x y))).getD i [] = lpr x y o (cN x y) i := by
    rw [List.getD_eq_getElem?_getD, List.getElem?_map, List.getElem?_range hi]; rfl
  rw [hn, e0]
  unfold lpr lrN
  rw [List.take_length, fold_get (fun d => (stZ x y o i d).toNat) j]
  · have hany : ((wlZ x y o i).any fun d => (stZ x y o i d).toNat == j) = toB x y o i j := by
      rw [Bool.eq_iff_iff]
      unfold toB
      rw [List.any_eq_true, List.any_eq_true]
      constructor
      · rintro ⟨d, hd, e⟩
        obtain ⟨⟨d0, d1⟩, d2⟩ := wl_mem 4 d hd
        refine ⟨d.toNat, List.mem_range.2 (by omega), ?_⟩
        have e' : (stZ x y o i d).toNat = j := by simpa using e
        unfold stN
        rw [Int.toNat_of_nonneg d0, beq_iff_eq]; omega
      · rintro ⟨q, hq, e⟩
        have e' : stN x y o i q = (j : Int) := by simpa using e
        unfold stN at e'
        exact ⟨(q : Int), wl_has (List.mem_range.1 hq) (by omega), by rw [beq_iff_eq]; omega⟩
    rw [hany]
    by_cases h : j = i
    · subst h
      rw [to_self, if_neg (by decide), if_pos rfl, List.getD_eq_getElem?_getD, List.getElem?_set_self (by simpa using hj)]
      show ((wlZ x y o j).length : Int) = _
      rw [wl_dg]
    · rw [if_neg h, List.getD_eq_getElem?_getD, List.getElem?_set_ne (fun e => h e.symm), List.getElem?_replicate, if_pos hj]; rfl
  · intro d hd
    rw [List.length_set, List.length_replicate]
    obtain ⟨⟨d0, d1⟩, d2⟩ := wl_mem 4 d hd
    have := stN_lt (x := x) (y := y) (z := o) i d.toNat (stZ x y o i d).toNat (by unfold stN; rw [Int.toNat_of_nonneg d0]; omega)
    exact this

/-! ### a row and a column left out -/
/-- The place of a row where another one is left out. -/
def skN (k i : Nat) : Nat := if i < k then i else i + 1
theorem sk_ne (k i : Nat) : skN k i ≠ k := by unfold skN; split <;> omega
theorem sk_inj {k i j : Nat} (h : skN k i = skN k j) : i = j := by unfold skN at h; split at h <;> split at h <;> omega
theorem wo_len' (hk : OkZ x y) {o k : Nat} (ho : o < 2 ^ gN x y) (hkc : k < cN x y) : (woL (lpZ x y o) k).length = cN x y - 1 ∧ (∀ l ∈ woL (lpZ x y o) k, l.length = cN x y - 1 ∧ abS l ≤ 8) := by
  obtain ⟨h1, h2⟩ := lp_len' hk ho
  unfold woL
  rw [if_pos ⟨lp_sq hk ho, Int.natCast_nonneg _, by rw [h1]; omega⟩, Int.toNat_natCast]
  refine ⟨by rw [List.length_map, List.length_eraseIdx, if_pos (by rw [h1]; exact hkc), h1], fun l hl => ?_⟩
  obtain ⟨m, hm, rfl⟩ := List.mem_map.1 hl
  obtain ⟨h3, h4⟩ := h2 m (List.mem_of_mem_eraseIdx hm)
  refine ⟨by rw [List.length_eraseIdx, if_pos (by rw [h3]; exact hkc), h3], ?_⟩
  have := abS_erase m k
  omega
theorem wo_sq (hk : OkZ x y) {o k : Nat} (ho : o < 2 ^ gN x y) (hkc : k < cN x y) : sqB (woL (lpZ x y o) k) = true := by
  obtain ⟨h1, h2⟩ := wo_len' hk ho hkc
  have := c16 hk
  exact sq_of (by omega) fun l hl => ⟨by rw [h1]; exact (h2 l hl).1, (h2 l hl).2⟩
theorem wo_mfn (hk : OkZ x y) {o k i j : Nat} (ho : o < 2 ^ gN x y) (hkc : k < cN x y) (hi : i < cN x y - 1) (hj : j < cN x y - 1) : mfn (woL (lpZ x y o) k) i j = lap (gN x y) (aN x y) (bN x y) (opE o) (skN k i) (skN k j) := by
  have hsi : skN k i < cN x y := by unfold skN; split <;> omega
  have hsj : skN k j < cN x y := by unfold skN; split <;> omega
  rw [← lp_mfn hk ho hsi hsj]
  obtain ⟨h1, h2⟩ := lp_len' hk ho
  unfold woL
  rw [if_pos ⟨lp_sq hk ho, Int.natCast_nonneg _, by rw [h1]; omega⟩, Int.toNat_natCast]
  generalize lpZ x y o = ls at *
  have hl := List.getElem?_eq_getElem (l := ls) (i := skN k i) (by omega)
  unfold mfn
  have e1 : ((ls.eraseIdx k).map fun l => l.eraseIdx k)[i]? = some ((ls[skN k i]'(by omega)).eraseIdx k) := by
    rw [List.getElem?_map, List.getElem?_eraseIdx]
    have : (if i < k then ls[i]? else ls[i + 1]?) = ls[skN k i]? := by unfold skN; split <;> rfl
    rw [this, hl]; rfl
  have e2 : ((ls.eraseIdx k).map fun l => l.eraseIdx k).getD i [] = (ls[skN k i]'(by omega)).eraseIdx k := by rw [List.getD_eq_getElem?_getD, e1]; rfl
  have e3 : ls.getD (skN k i) [] = ls[skN k i]'(by omega) := by rw [List.getD_eq_getElem?_getD, hl]; rfl
  rw [e2, e3]
  rw [List.getD_eq_getElem?_getD, List.getElem?_eraseIdx, List.getD_eq_getElem?_getD]
  unfold skN; split <;> rfl

/-! ### the number of perfect mazes -/
/-- How many perfect mazes have only passages of a maze. -/
def ctN (x y : Int) (o : Nat) : Nat := tcN x y 0 (2 ^ gN x y - 1 - o)
def ctZ (x y z : Int) : Int := if OkM x y z then (ctN x y z.toNat : Int) else 0
theorem bt_compl {G o : Nat} (ho : o < 2 ^ G) {g : Nat} (hg : g < G) : bt (2 ^ G - 1 - o) g = 1 - bt o g := by
  have h := Nat.testBit_two_pow_sub_succ ho g
  rw [show 2 ^ G - (o + 1) = 2 ^ G - 1 - o by omega, bt_test, bt_test, decide_eq_true hg, Bool.true_and] at h
  have h1 := bt_le o g
  have h2 := bt_le (2 ^ G - 1 - o) g
  by_cases e : bt o g = 1
  · rw [decide_eq_true e] at h
    have : ¬ bt (2 ^ G - 1 - o) g = 1 := of_decide_eq_false (by rw [h]; rfl)
    omega
  · rw [decide_eq_false e] at h
    have : bt (2 ^ G - 1 - o) g = 1 := of_decide_eq_true (by rw [h]; rfl)
    omega
theorem bt_zero (g : Nat) : bt 0 g = 0 := by simp [bt]
/-- It is any minor. -/
theorem ct_minor (hk : OkZ x y) {o : Nat} (ho : o < 2 ^ gN x y) {I : List Nat} {r : Nat} (hr : r < cN x y) (hnd : I.Nodup) (hI : ∀ t, t < cN x y → (t ∈ I ↔ t ≠ r)) (hIl : I.length + 1 = cN x y) (hIn : ∀ t ∈ I, t < cN x y) :
    (ctN x y o : Int) = dm (lap (gN x y) (aN x y) (bN x y) (opE o)) I := by
  have := tc_minor (c := 0) (b := 2 ^ gN x y - 1 - o) (n := cN x y) (κ := id) (E := opE o) (I := I) (r := r) hk (Nat.pow_pos (by decide)) (fun g _ h => by rw [bt_zero] at h; omega) (fun g hg => by
    rw [bt_zero, bt_compl ho hg]
    have := bt_le o g
    unfold opE
    rw [decide_eq_true_eq]
    omega) (parts_zero hk) hr hnd hI hIl hIn
  exact this
theorem dm_minor (hk : OkZ x y) {o k : Nat} (ho : o < 2 ^ gN x y) (hkc : k < cN x y) : dm (lap (gN x y) (aN x y) (bN x y) (opE o)) ((List.range (cN x y - 1)).map (skN k)) = (ctN x y o : Int) := by
  refine (ct_minor hk ho hkc ?_ (fun t ht => ?_) ?_ (fun t ht => ?_)).symm
  · exact map_nodup List.nodup_range fun i j _ _ h => sk_inj h
  · rw [List.mem_map]
    constructor
    · rintro ⟨i, -, rfl⟩; exact sk_ne k i
    · intro hne
      by_cases h : t < k
      · exact ⟨t, List.mem_range.2 (by omega), by unfold skN; rw [if_pos h]⟩
      · exact ⟨t - 1, List.mem_range.2 (by omega), by unfold skN; rw [if_neg (by omega)]; omega⟩
  · rw [List.length_map, List.length_range]; omega
  · obtain ⟨i, hi, rfl⟩ := List.mem_map.1 ht
    have := List.mem_range.1 hi
    unfold skN; split <;> omega
theorem ct_bd (x y : Int) (o : Nat) : ctN x y o ≤ 2 ^ gN x y := cnt_most _ _
/-- The determinant without a row and a column. -/
theorem det_trees (hk : OkZ x y) {o k : Nat} (ho : o < 2 ^ gN x y) (hkc : k < cN x y) : deZ (woL (lpZ x y o) k) = (ctN x y o : Int) := by
  unfold deZ
  rw [if_pos (wo_sq hk ho hkc), (wo_len' hk ho hkc).1]
  have e : dm (mfn (woL (lpZ x y o) k)) (List.range (cN x y - 1)) = (ctN x y o : Int) := by
    rw [← dm_minor hk ho hkc, ← dm_map]
    exact dm_congr fun i hi j hj => wo_mfn hk ho hkc (List.mem_range.1 hi) (List.mem_range.1 hj)
  rw [e]
  have h1 := ct_bd x y o
  have h2 : 2 ^ gN x y ≤ 2 ^ 24 := Nat.pow_le_pow_right (by decide) (by have := gps_bd hk.1 hk.2.1 hk.2.2.1 hk.2.2.2; unfold gN; omega)
  unfold Go.RowKit.wrap64; omega
end
end Go.Proofs.Ytnfnandpcjgmmaa.cntQ
