/- The contracts of the model's functions on square matrices. -/
import Derived.Test.YtcoikcnijaniaaaDets
import Derived.Test.YtcoikcnijaniaaaRowsP
import Derived.Test.YtcoikcnijaniaaaModM
import Derived.Deep.AppendLies

namespace Go.Proofs.Ytcoikcnijaniaaa.matM
open Go.ChangeShapes Go.WideShapes Go.ChangeAt Go.RowKit
open draw gridP gridC gridE bitP mazeP mazeC mazeM mazeR mazeS intsP reachD intA listK rowsP matP
set_option linter.unusedVariables false

end Go.Proofs.Ytcoikcnijaniaaa.matM

/- The sums over the sets of columns that are used, in memory. -/
namespace Go.Proofs.Ytcoikcnijaniaaa.matN
open Go.ChangeShapes Go.WideShapes Go.ChangeAt Go.RowKit
open draw gridP gridC bitP mazeP mazeQ mazeC mazeM intsP reachD intA listK forest deadP detP trsP barP rowsP matP
set_option linter.unusedVariables false

section
variable (a : Nat → Nat → Int) (n : Nat)
/-- The sums that stand there. -/
def plL (S κ : Nat) : List Int := (List.range (2 ^ n)).map fun t => wrap64 (acc a n t S κ)
end
section
variable {a : Nat → Nat → Int} {n : Nat}
theorem pl_len (S κ : Nat) : (plL a n S κ).length = 2 ^ n := by simp [plL]
theorem pl_at {S κ t : Nat} (h : t < 2 ^ n) : (plL a n S κ)[t]? = some (wrap64 (acc a n t S κ)) := by
  unfold plL; rw [List.getElem?_map, List.getElem?_range h]; rfl
theorem pl_ext {S κ S' κ' : Nat} (h : ∀ t, t < 2 ^ n → wrap64 (acc a n t S κ) = wrap64 (acc a n t S' κ')) : plL a n S κ = plL a n S' κ' := List.map_congr_left fun t ht => h t (List.mem_range.1 ht)
theorem pl_start : (List.replicate (2 ^ n) (0 : Int)).set 0 1 = plL a n 0 n := by
  apply List.ext_getElem?
  intro i
  by_cases hi : i < 2 ^ n
  · rw [pl_at hi, acc_start]
    by_cases h0 : i = 0
    · subst h0
      rw [List.getElem?_set_self (by simpa using hi), if_pos rfl, show wrap64 1 = 1 by unfold wrap64; omega]
    · rw [List.getElem?_set_ne (fun e => h0 e.symm), if_neg h0, List.getElem?_replicate, if_pos hi, show wrap64 0 = 0 by unfold wrap64; omega]
  · rw [List.getElem?_eq_none (by simp; omega), List.getElem?_eq_none (by rw [pl_len]; omega)]
theorem pl_turn (S : Nat) : plL a n S 0 = plL a n (S + 1) n := pl_ext fun t _ => by rw [acc_turn]
theorem pl_skip {S : Nat} (hS : S < 2 ^ n) (h : (∀ k, k < n → bt S k = 1) ∨ wrap64 (dsN a n S) = 0) : plL a n S n = plL a n (S + 1) n := by
  rw [← pl_turn]
  exact pl_ext fun t _ => (acc_skip hS h (Nat.zero_le _)).symm
theorem pl_same {S k : Nat} (hk : k < n) (h : bt S k = 1 ∨ a (pcN S n) k = 0) : plL a n S (k + 1) = plL a n S k := pl_ext fun t ht => by
  rw [acc_step (κ := k) hk]
  by_cases hc : bt S k = 0 ∧ t = S + 2 ^ k
  · rw [if_pos hc]
    rcases h with h | h
    · omega
    · obtain ⟨h0, rfl⟩ := hc
      unfold term
      rw [pc_add h0 hk, Nat.add_sub_cancel, h]; simp
  · rw [if_neg hc]; simp
theorem pl_put {S k : Nat} (hk : k < n) (h0 : bt S k = 0) (hS : S < 2 ^ n) :
    (plL a n S (k + 1)).set (S + 2 ^ k) (wrap64 (acc a n (S + 2 ^ k) S (k + 1) + sg (pcN S n - pcN S (k + 1)) * wrap64 (dsN a n S) * a (pcN S n) k)) = plL a n S k := by
  have hT := add_lt hS hk h0
  have hterm : term a n (S + 2 ^ k) k = sg (pcN S n - pcN S (k + 1)) * a (pcN S n) k * dsN a n S := by
    unfold term hi
    have h1 : pcN (S + 2 ^ k) (k + 1) = pcN S (k + 1) + 1 := pc_add h0 (Nat.lt_succ_self k)
    rw [pc_add h0 hk, h1, Nat.add_sub_cancel, Nat.add_sub_cancel_right, show pcN S n + 1 - (pcN S (k + 1) + 1) = pcN S n - pcN S (k + 1) by omega]
  apply List.ext_getElem?
  intro i
  by_cases hi : i < 2 ^ n
  · rw [pl_at hi, acc_step (κ := k) hk]
    by_cases he : i = S + 2 ^ k
    · subst he
      rw [List.getElem?_set_self (by rw [pl_len]; exact hi), if_pos ⟨h0, rfl⟩, hterm]
      congr 1
      rw [← wrap_add', ← wrap_add' _ (sg _ * _ * dsN a n S)]
      congr 2
      rw [show sg (pcN S n - pcN S (k + 1)) * wrap64 (dsN a n S) * a (pcN S n) k = sg (pcN S n - pcN S (k + 1)) * a (pcN S n) k * wrap64 (dsN a n S) by rw [Int.mul_assoc, Int.mul_comm (wrap64 _), ← Int.mul_assoc], wrap_mul']
    · rw [List.getElem?_set_ne (fun e => he e.symm), pl_at hi, if_neg (fun h => he h.2)]; simp
  · rw [List.getElem?_eq_none (by rw [List.length_set, pl_len]; omega), List.getElem?_eq_none (by rw [pl_len]; omega)]
theorem pc_le' (S : Nat) : ∀ k, pcN S k ≤ k
  | 0 => Nat.zero_le _
  | k + 1 => by have := pc_le' S k; have := bt_le S k; unfold pcN; unfold bt at this; omega
theorem pc_mono (S k : Nat) : ∀ d, pcN S k ≤ pcN S (k + d)
  | 0 => Nat.le_refl _
  | d + 1 => Nat.le_trans (pc_mono S k d) (Nat.le_add_right _ _)
theorem pc_succ (S k : Nat) : pcN S (k + 1) = pcN S k + bt S k := rfl
theorem full_of {S : Nat} : ∀ {n : Nat}, pcN S n = n → ∀ k, k < n → bt S k = 1
  | 0, _, k, h => absurd h (by omega)
  | n + 1, h, k, hk => by
    rw [pc_succ] at h
    have h1 := pc_le' S n
    have h2 := bt_le S n
    by_cases e : k = n
    · subst e; omega
    · exact full_of (n := n) (by omega) k (by omega)
theorem bt_ones {n : Nat} : ∀ k, k < n → bt (2 ^ n - 1) k = 1 := fun k hk => by
  have h := bt_test (2 ^ n - 1) k
  rw [Nat.testBit_two_pow_sub_one] at h
  rw [decide_eq_true hk] at h
  exact of_decide_eq_true h.symm
theorem pl_end {S κ : Nat} (h : 2 ^ n ≤ S) : (plL a n S κ)[2 ^ n - 1]? = some (wrap64 (dm a (List.range n))) := by
  have hp : 0 < 2 ^ n := Nat.pow_pos (by decide)
  rw [pl_at (by omega), acc_all (by omega) (by omega), ds_full bt_ones]
end
/-- The sums in memory. -/
def DN (W : World) (a : Nat → Nat → Int) (n S κ : Nat) (X : World) : Prop := Below W.heap.size W X ∧ X.ownsRow W.heap.size 3 1 (.slice (some ⟨W.heap.size, 0, none⟩) (2 ^ n) (2 ^ n)) (2 ^ n) (icells (plL a n S κ))
theorem DN.call {W X X' : World} {a : Nat → Nat → Int} {n S κ : Nat} (h : DN W a n S κ X) (hb : Below X.heap.size X X') : DN W a n S κ X' := ⟨below_call h.1 hb, own_call h.2 hb⟩
theorem DN.same {W X : World} {a : Nat → Nat → Int} {n S κ S' κ' : Nat} (h : DN W a n S κ X) (e : plL a n S κ = plL a n S' κ') : DN W a n S' κ' X := ⟨h.1, by rw [← e]; exact h.2⟩
theorem DN.cell {W X : World} {a : Nat → Nat → Int} {n S κ t : Nat} (h : DN W a n S κ X) (ht : t < 2 ^ n) : X.cell? ⟨W.heap.size, t, none⟩ = some (.int .i64 (wrap64 (acc a n t S κ))) := own_cellI h.2 (pl_at ht)
theorem DN.put {W X : World} {a : Nat → Nat → Int} {n S κ κ' S' t : Nat} {z : Int} (h : DN W a n S κ X) (e : (plL a n S κ).set t z = plL a n S' κ') : DN W a n S' κ' (X.setCell ⟨W.heap.size, t, none⟩ (.int .i64 z)) := by
  refine ⟨h.1.setCell (Nat.le_refl _) _, ?_⟩
  have h1 := (h.2.stored t (.int .i64 z)).1
  have e2 : (icells (plL a n S κ)).set t (.int .i64 z) = icells (plL a n S' κ') := by rw [← e]; simp [icells, List.map_set]
  rwa [e2] at h1
end Go.Proofs.Ytcoikcnijaniaaa.matN

/- Rows exchanged: the plain facts, and lists of rows that share their rows with another. -/
namespace Go.Proofs.Ytcoikcnijaniaaa.matX
open Go.ChangeShapes Go.WideShapes Go.ChangeAt Go.RowKit
open draw gridC mazeC intsP reachD intA intK listK rowsP matP detP
set_option linter.unusedVariables false

theorem dt_exch {a b : Nat → Nat → Int} {I : List Nat} {i k : Nat} (hI : I.Nodup) (hi : i ∈ I) (hk : k ∈ I) (hne : i ≠ k) (hbi : b i = a k) (hbk : b k = a i) (ho : ∀ r, r ≠ i → r ≠ k → b r = a r) (cs : List Nat) :
    dt (I.map b) cs = - dt (I.map a) cs := by
  have hm : ∀ s : List Nat, i ∉ s → k ∉ s → s.map b = s.map a := fun s h1 h2 => List.map_congr_left fun r hr => ho r (fun e => h1 (e ▸ hr)) (fun e => h2 (e ▸ hr))
  obtain ⟨s, t, rfl⟩ := List.append_of_mem hi
  obtain ⟨n1, n2, n3⟩ := List.nodup_append.1 hI
  have his : i ∉ s := fun h => n3 i h i List.mem_cons_self rfl
  have hit : i ∉ t := (List.nodup_cons.1 n2).1
  rcases List.mem_append.1 hk with h | h
  · have hkt : k ∉ t := fun h' => n3 k h k (List.mem_cons_of_mem _ h') rfl
    obtain ⟨p, q, rfl⟩ := List.append_of_mem h
    obtain ⟨m1, m2, m3⟩ := List.nodup_append.1 n1
    have hkp : k ∉ p := fun h => m3 k h k List.mem_cons_self rfl
    have hkq : k ∉ q := (List.nodup_cons.1 m2).1
    have hip : i ∉ p := fun h => his (List.mem_append.2 (.inl h))
    have hiq : i ∉ q := fun h => his (List.mem_append.2 (.inr (List.mem_cons_of_mem _ h)))
    simp only [List.map_append, List.map_cons, hm p hip hkp, hm q hiq hkq, hm t hit hkt, hbi, hbk, List.append_assoc, List.cons_append]
    exact dt_swap _ _ _ _ _ cs
  · have h := (List.mem_cons.1 h).resolve_left (fun e => hne e.symm)
    have hks : k ∉ s := fun h' => n3 k h' k (List.mem_cons_of_mem _ h) rfl
    obtain ⟨p, q, rfl⟩ := List.append_of_mem h
    obtain ⟨m1, m2, m3⟩ := List.nodup_append.1 (List.nodup_cons.1 n2).2
    have hkp : k ∉ p := fun h => m3 k h k List.mem_cons_self rfl
    have hkq : k ∉ q := (List.nodup_cons.1 m2).1
    have hip : i ∉ p := fun h => hit (List.mem_append.2 (.inl h))
    have hiq : i ∉ q := fun h => hit (List.mem_append.2 (.inr (List.mem_cons_of_mem _ h)))
    simp only [List.map_append, List.map_cons, hm s his hks, hm p hip hkp, hm q hiq hkq, hbi, hbk]
    exact dt_swap _ _ _ _ _ cs
theorem dt_equal {b : Nat → Nat → Int} {I : List Nat} {i k : Nat} (hi : i ∈ I) (hk : k ∈ I) (hne : i ≠ k) (hb : b i = b k) (cs : List Nat) : dt (I.map b) cs = 0 := by
  obtain ⟨s, t, rfl⟩ := List.append_of_mem hi
  have hm : b i ∈ s.map b ++ t.map b := by
    rw [hb, ← List.map_append]
    refine List.mem_map.2 ⟨k, ?_, rfl⟩
    rcases List.mem_append.1 hk with h | h
    · exact List.mem_append.2 (.inl h)
    · exact List.mem_append.2 (.inr ((List.mem_cons.1 h).resolve_left (fun e => hne e.symm)))
  rw [List.map_append, List.map_cons, dt_move, dt_twice hm, Int.mul_zero]

theorem sq_rows {ls ms : List (List Int)} (h : sqB ls = true) (hl : ms.length = ls.length) (hm : ∀ l ∈ ms, l ∈ ls) : sqB ms = true := by
  unfold sqB at h ⊢
  rw [Bool.and_eq_true, List.all_eq_true] at h ⊢
  rw [hl]
  exact ⟨fun l hl => h.1 l (hm l hl), h.2⟩
theorem mem_set2 {ls : List (List Int)} {i : Nat} {l m : List Int} (hl : l ∈ ls) (hm : m ∈ ls.set i l) : m ∈ ls := by
  rcases List.mem_or_eq_of_mem_set hm with h | h
  · exact h
  · rw [h]; exact hl
theorem mfn_row {ls ms : List (List Int)} {i k : Nat} (h : ms[i]? = ls[k]?) : mfn ms i = mfn ls k := by
  funext j; simp [mfn, List.getD_eq_getElem?_getD, h]
theorem wrap_zero : wrap64 0 = 0 := by unfold wrap64; omega
/-- Two rows exchanged: the sign changes; a row put in another's place: 0. -/
theorem exch {ls : List (List Int)} {i k : Nat} {li lk : List Int} (hq : sqB ls = true) (hne : i ≠ k) (hi : ls[i]? = some li) (hk : ls[k]? = some lk) :
    deZ ((ls.set i lk).set k li) = wrap64 (- deZ ls) ∧ deZ (ls.set i lk) = 0 ∧ sqB ((ls.set i lk).set k li) = true ∧ sqB (ls.set i lk) = true := by
  have hil : i < ls.length := (List.getElem?_eq_some_iff.1 hi).1
  have hkl : k < ls.length := (List.getElem?_eq_some_iff.1 hk).1
  have mi : li ∈ ls := List.mem_of_getElem? hi
  have mk : lk ∈ ls := List.mem_of_getElem? hk
  have q1 : sqB (ls.set i lk) = true := sq_rows hq (by simp) fun l hl => mem_set2 mk hl
  have q2 : sqB ((ls.set i lk).set k li) = true := sq_rows hq (by simp) fun l hl => by
    rcases List.mem_or_eq_of_mem_set hl with h | h
    · exact mem_set2 mk h
    · rw [h]; exact mi
  have hn : ((List.range ls.length).reverse).Nodup := List.pairwise_reverse.2 (List.Pairwise.imp (fun h e => h e.symm) List.nodup_range)
  have hii : i ∈ (List.range ls.length).reverse := List.mem_reverse.2 (List.mem_range.2 hil)
  have hkk : k ∈ (List.range ls.length).reverse := List.mem_reverse.2 (List.mem_range.2 hkl)
  refine ⟨?_, ?_, q2, q1⟩
  · unfold deZ
    rw [if_pos q2, if_pos hq, wrap_neg, List.length_set, List.length_set]
    congr 1
    unfold dm
    refine dt_exch hn hii hkk hne ?_ ?_ (fun r h1 h2 => ?_) _
    · exact mfn_row (by rw [List.getElem?_set_ne (fun e => hne e.symm), List.getElem?_set_self hil, hk])
    · exact mfn_row (by rw [List.getElem?_set_self (by simpa using hkl), hi])
    · exact mfn_row (by rw [List.getElem?_set_ne (fun e => h2 e.symm), List.getElem?_set_ne (fun e => h1 e.symm)])
  · unfold deZ
    rw [if_pos q1, List.length_set]
    have : dm (mfn (ls.set i lk)) (List.range ls.length) = 0 := by
      unfold dm
      refine dt_equal hii hkk hne ?_ _
      funext j
      simp [mfn, List.getD_eq_getElem?_getD, List.getElem?_set_self hil, List.getElem?_set_ne hne, hk]
    rw [this, wrap_zero]

/-- Cells that hold rows that can be read. -/
def RowsOf (X : World) (B : Nat) (ds : List Value) (ls : List (List Int)) : Prop := ∀ (r : Nat) (l : List Int), ls[r]? = some l → ∃ Ai ci, ds[r]? = some (.slice Ai l.length ci) ∧ IntsIn X B Ai l ∧ l.length ≤ ci ∧ ci ≤ maxLen
theorem RowsOf.below {X X' : World} {B : Nat} {ds : List Value} {ls : List (List Int)} (h : RowsOf X B ds ls) (hb : Below B X X') : RowsOf X' B ds ls := fun r l hl => by
  obtain ⟨Ai, ci, h1, h2, h3⟩ := h r l hl
  exact ⟨Ai, ci, h1, h2.keep fun p hp => hb.cell hp, h3⟩
theorem RowsOf.put {X : World} {B i k : Nat} {ds : List Value} {ls : List (List Int)} {l : List Int} {c : Value} (h : RowsOf X B ds ls) (hl : ls[k]? = some l) (hc : ds[k]? = some c) {es : List Value} {ms : List (List Int)} (h' : RowsOf X B es ms) (he : es.length = ms.length) : RowsOf X B (es.set i c) (ms.set i l) := fun r m hm => by
  by_cases hr : r = i
  · subst hr
    have hlt : r < ms.length := by have := (List.getElem?_eq_some_iff.1 hm).1; simpa using this
    rw [List.getElem?_set_self hlt] at hm
    obtain rfl := Option.some.inj hm
    obtain ⟨Ai, ci, h1, h2⟩ := h k l hl
    rw [hc] at h1
    exact ⟨Ai, ci, by rw [List.getElem?_set_self (by omega), Option.some.inj h1], h2⟩
  · rw [List.getElem?_set_ne (fun e => hr e.symm)] at hm ⊢
    exact h' r m hm
theorem rows_own {X : World} {b t : Nat} {v : Value} {ls : List (List Int)} (h : MxOw X b t v ls) : ∃ cs : List Value, X.ownsRow b 32 1 v ls.length cs ∧ RowsOf X X.heap.size cs ls := by
  obtain ⟨cs, h1, h2, h3, h4⟩ := h
  refine ⟨cs, h1, fun r l hl => ?_⟩
  obtain ⟨c, e1, e2, e3⟩ := h3 r l hl
  obtain ⟨Ai, ci, rfl⟩ := intsP.own_form e2
  exact ⟨Ai, ci, e1, (ints_own e2).1, own_cap e2⟩
theorem RowsOf.mx {X : World} {b B n : Nat} {A : Option Addr} {c : Nat} {ds : List Value} {ls : List (List Int)} (h : RowsOf X B ds ls) (hB : B ≤ X.heap.size) (ho : X.ownsRow b 32 1 (.slice A n c) n ds) (hn : n = ls.length) : MxIn X X.heap.size A ls := by
  subst hn
  intro hne
  obtain ⟨g, cg, e, hg, hgs⟩ := own_some ho (List.length_pos_iff.2 hne)
  injection e with e1 e2 e3
  subst e1 e3
  refine ⟨_, rfl, hgs, fun i l hl => ?_⟩
  obtain ⟨Ai, ci, h1, h2, h3⟩ := h i l hl
  refine ⟨Ai, ci, ?_, h2.more hB, h3⟩
  have e3 : (⟨g, 0, none⟩ : Addr).add i = ⟨g, i, none⟩ := by
    simp [Addr.add]
    try omega
  rw [e3, ho.cellAt i (by have := (List.getElem?_eq_some_iff.1 hl).1; omega), h1]
end Go.Proofs.Ytcoikcnijaniaaa.matX

/- The contract of the model's determinant. -/
namespace Go.Proofs.Ytcoikcnijaniaaa.matO
open Go.ChangeShapes Go.WideShapes Go.ChangeAt Go.RowKit
open draw gridP gridC gridE bitP mazeP mazeQ mazeC mazeM mazeR mazeS intsP reachD intA listK forest deadP detP trsP barP rowsP matP matM matN
set_option linter.unusedVariables false

theorem btB_is {S k : Nat} (h : S < 2 ^ 16) (hk : k < 16) : btB (S : Int) (k : Int) = decide (bt S k = 1) := by
  unfold btB
  rw [bitZ_bt (by omega) (by omega), Int.toNat_natCast, Int.toNat_natCast]
  rw [decide_eq_decide]; omega
theorem sg_pm : ∀ m, sg m = 1 ∨ sg m = -1
  | 0 => .inl rfl
  | m + 1 => by
    rcases sg_pm m with h | h
    · exact .inr (by show - sg m = -1; rw [h])
    · exact .inl (by show - sg m = 1; rw [h]; rfl)
theorem mfn_at {ls : List (List Int)} {i j : Nat} {l : List Int} {z : Int} (hl : ls[i]? = some l) (hz : l[j]? = some z) : mfn ls i j = z := by
  simp [mfn, List.getD_eq_getElem?_getD, hl, hz]

end Go.Proofs.Ytcoikcnijaniaaa.matO

/- The contract of the model's WithoutRow. -/
namespace Go.Proofs.Ytcoikcnijaniaaa.matQ
open Go.ChangeShapes Go.WideShapes Go.ChangeAt Go.RowKit
open draw gridP gridC gridE bitP mazeP mazeC mazeM mazeR mazeS intsP reachD intA intK listK rowsP matP matM
set_option linter.unusedVariables false

/-- The rows so far. -/
def wo (ls : List (List Int)) (k i : Nat) : List (List Int) := ((ls.take i).eraseIdx k).map (fun l => l.eraseIdx k)
theorem wo_zero (ls : List (List Int)) (k : Nat) : wo ls k 0 = [] := by simp [wo]
theorem wo_skip (ls : List (List Int)) (k : Nat) : wo ls k (k + 1) = wo ls k k := by
  unfold wo
  rw [List.eraseIdx_eq_take_drop_succ, List.eraseIdx_eq_take_drop_succ, List.take_take, List.take_take, Nat.min_eq_left (Nat.le_succ k), Nat.min_self,
    List.drop_eq_nil_of_le (by simp; omega), List.drop_eq_nil_of_le (by simp; omega)]
theorem wo_next {ls : List (List Int)} {k i : Nat} {l : List Int} (hl : ls[i]? = some l) (h : i ≠ k) : wo ls k (i + 1) = wo ls k i ++ [l.take k ++ l.drop (k + 1)] := by
  have hi : i < ls.length := (List.getElem?_eq_some_iff.1 hl).1
  unfold wo
  rw [List.take_add_one, hl, Option.toList_some]
  rcases Nat.lt_or_ge k i with h' | h'
  · rw [List.eraseIdx_append_of_lt_length (by simp; omega), List.map_append, List.map_singleton, List.eraseIdx_eq_take_drop_succ l]
  · rw [List.eraseIdx_of_length_le (by simp; omega), List.eraseIdx_of_length_le (by simp; omega), List.map_append, List.map_singleton, List.eraseIdx_eq_take_drop_succ l]
theorem wo_all (ls : List (List Int)) (k : Nat) : wo ls k ls.length = (ls.eraseIdx k).map (fun l => l.eraseIdx k) := by unfold wo; rw [List.take_length]
theorem wo_len (ls : List (List Int)) (k i : Nat) : (wo ls k i).length ≤ ls.length := by
  unfold wo
  rw [List.length_map]
  exact Nat.le_trans (List.length_eraseIdx_le _ _) (by simp; omega)

/-- An append, of no elements too, as one step of a region that draws. -/
theorem step_app {P : Program} {ops : Array Oper} {o : Oper} {a : Act} {w : World} {K : Act → World → Prop} {Q : Exit → Act → World → Prop} {E : Prop}
    (hg : o.guard = none) (s x : Operand) (t : TypeId) (hop : o.op = Op.call { callee := Callee.builtin Builtin.append, args := #[s, x], argTypes := #[t, t] })
    (base : Nat) (e : TypeId) (i : TypeInfo) (z : Value) (size bytes : Nat) (h1 : P.underlying t = some (.slice e)) (h2 : P.info? e = some i) (h3 : i.zero = some z) (h4 : i.size = size) (h5 : i.bytes = bytes) (h6 : z.cells.size = size) (h7 : 0 < size)
    (v : Value) (n : Nat) (xs : List Value) (hs : a.eval s = v) (hown : w.ownsRow base e size v n xs)
    (ad : Addr) (m c : Nat) (news : List Value) (hx : a.eval x = .slice (some ad) m c) (hn : news.length = m * size) (hc : ∀ j u, news[j]? = some u → w.cell? (ad.add j) = some u) (h1c : ∀ u ∈ news, u.oneCell' = true)
    (N : Nat) (ys : List Value) (hN : n + m = N) (hy : xs ++ news = ys) (b1 : N ≤ maxLen) (b2 : N * bytes ≤ 140737488355328) (hb : base ≤ w.heap.size)
    (hK : ∀ A' c' w', w'.ownsRow base e size (.slice A' N c') N ys → w.grownBy w' v.ownBlock → K (a.put o.dst (.slice A' N c')) w') :
    if Region.wanted o (yielded ops a.tmps) = true then Oper.wp P o a w K Q else E := by
  have hw : Region.wanted o (yielded ops a.tmps) = true := by simp [Region.wanted, hg]
  rw [if_pos hw]
  subst hN hy
  obtain ⟨v', w', hrun, r1, r2, -⟩ := run_append_own_at (P := P) w base t o.type e i z size bytes h1 h2 h3 h4 h5 h6 h7 v n xs hown ad m c news hn hc h1c b1 b2 hb
  obtain ⟨A', c', rfl⟩ := own_form r1
  unfold Oper.wp
  simp [execOp, hop, resolve, invoke, builtin, hs, hx, hrun, Result.andThen]
  exact hK A' c' w' r1 r2

theorem below_step {B base n s : Nat} {W X X' : World} {e : TypeId} {v : Value} {xs : List Value} (hb : Below B W X) (hB : B ≤ base) (hw : B ≤ W.heap.size) (ho : X.ownsRow base e s v n xs) (g : X.grownBy X' v.ownBlock) : Below B W X' :=
  hb.grown g (Nat.le_trans hw hb.size) (fun q hk => Nat.le_trans hB (ho.lt q hk).1)
theorem cells_int {X : World} {a : Addr} {l : List Int} (h : ∀ j u, l[j]? = some u → X.cell? (a.add j) = some (.int .i64 u)) : ∀ j u, (icells l)[j]? = some u → X.cell? (a.add j) = some u := fun j u hu => by
  unfold icells at hu
  rw [List.getElem?_map] at hu
  cases hl : l[j]? with
  | none => rw [hl] at hu; cases hu
  | some z => rw [hl] at hu; rw [h j z hl, ← Option.some.inj hu]
theorem take_cells {X : World} {a : Addr} {l : List Int} {k : Nat} (h : ∀ j u, l[j]? = some u → X.cell? (a.add j) = some (.int .i64 u)) : ∀ j u, (l.take k)[j]? = some u → X.cell? (a.add j) = some (.int .i64 u) := fun j u hu => by
  rw [List.getElem?_take] at hu
  split at hu
  · exact h j u hu
  · cases hu

/-- A row was built from two parts: what the rows are then. -/
theorem row_built {W X X2 X3 : World} {b m q : Nat} {ls : List (List Int)} {v v2 v3 : Value} {xs : List Value} {l : List Int} (h : ML W b ls v X)
    (g1 : (X.alloc (.cells #[] 3)).grownBy X2 (some X.heap.size)) (o2 : X2.ownsRow X.heap.size 3 1 v2 m xs) (g2 : X2.grownBy X3 v2.ownBlock) (hq : q = l.length) (o3 : X3.ownsRow X.heap.size 3 1 v3 q (icells l)) :
    ∃ cs : List Value, X3.ownsRow b 32 1 v ls.length cs ∧ ∀ (o : Obj) (X5 : World) (gg cap : Nat), X5.ownsRow b 32 1 (.slice (some ⟨gg, 0, none⟩) (ls.length + 1) cap) (ls.length + 1) (cs ++ [v3]) → (X3.alloc o).grownBy X5 v.ownBlock →
      ML W b (ls ++ [l]) (.slice (some ⟨gg, 0, none⟩) (ls.length + 1) cap) X5 := by
  subst hq
  have b1 : Below X.heap.size X X2 := ((Below.refl _ _).alloc (Nat.le_refl _) _).grown g1 (by simp) (fun g hk => by cases hk; exact Nat.le_refl _)
  have b2 : Below X.heap.size X X3 := b1.grown g2 b1.size (fun g hk => (o2.lt g hk).1)
  obtain ⟨cs, c1, c3, c4, c5⟩ := h.parts
  have e1 := own_call c1 b2
  refine ⟨cs, e1, fun o X5 gg cap h5 hg => ?_⟩
  refine ((h.call b2).app ⟨e1, fun i k hk => ?_, c4⟩ (own_base o3 h.2.2.1) (fun i c g hc hg' e => ?_) h5 hg).1
  · obtain ⟨c, d1, d2, d3⟩ := c3 i k hk
    exact ⟨c, d1, own_call d2 b2, fun g hg => Nat.lt_of_lt_of_le (d3 g hg) b2.size⟩
  · have := c5 i c g hc hg'
    have := (o3.lt g e).1
    omega

end Go.Proofs.Ytcoikcnijaniaaa.matQ

/- The contract of the model's LaplaceOf. -/
namespace Go.Proofs.Ytcoikcnijaniaaa.matR
open Go.ChangeShapes Go.WideShapes Go.ChangeAt Go.RowKit
open draw gridP gridC gridE bitP mazeP mazeC mazeM mazeR mazeS intsP reachD intA intK listK rowsP matP matM matQ
set_option linter.unusedVariables false

/-- A row of the matrix behind the first j of the ways. -/
def lrN (x y z : Int) (n k j : Nat) : List Int := ((wlZ x y z k).take j).foldl (fun r d => r.set (stZ x y z k d).toNat (-1)) ((List.replicate n 0).set k ((wlZ x y z k).length : Int))
theorem fold_set (f : Int → Nat) : ∀ (ds : List Int) (r : List Int), (ds.foldl (fun r d => r.set (f d) (-1)) r).length = r.length
  | [], r => rfl
  | d :: ds, r => by rw [List.foldl_cons, fold_set f ds, List.length_set]
theorem lr_len (x y z : Int) (n k j : Nat) : (lrN x y z n k j).length = n := by
  unfold lrN
  rw [fold_set (fun d => (stZ x y z k d).toNat), List.length_set, List.length_replicate]
theorem lr_next {x y z : Int} {n k j : Nat} {d : Int} (hd : (wlZ x y z k)[j]? = some d) : lrN x y z n k (j + 1) = (lrN x y z n k j).set (stZ x y z k d).toNat (-1) := by
  unfold lrN
  rw [List.take_add_one, hd, Option.toList_some, List.foldl_append]; rfl
theorem lr_zero (x y z : Int) (n k : Nat) : lrN x y z n k 0 = (List.replicate n 0).set k ((wlZ x y z k).length : Int) := rfl
/-- A row of the matrix. -/
def lpr (x y z : Int) (n k : Nat) : List Int := lrN x y z n k (wlZ x y z k).length
/-- The matrix of a maze. -/
def lpZ (x y z : Int) : List (List Int) := if okB x y z = true then (List.range (x * y).toNat).map (lpr x y z (x * y).toNat) else []

theorem lp_len (x y z : Int) : (lpZ x y z).length ≤ 1000 ∧ ∀ l ∈ lpZ x y z, l.length ≤ 1000 := by
  unfold lpZ
  split
  · rename_i h
    have hv : OkM x y z := of_decide_eq_true h
    obtain ⟨⟨h1, h2, h3, h4⟩, -, -⟩ := hv
    have hcc := (mul_bd x y h1 h2 h3 h4).1
    refine ⟨by simp; omega, fun l hl => ?_⟩
    obtain ⟨k, -, rfl⟩ := List.mem_map.1 hl
    unfold lpr
    rw [lr_len]; omega
  · exact ⟨by simp, fun l hl => absurd hl (by simp)⟩

/-- The row that is written, and the ways, in blocks behind those of V. -/
def LS (V : World) (n : Nat) (l ds : List Int) (v : Value) (X : World) : Prop :=
  Below V.heap.size V X ∧ X.ownsRow V.heap.size 3 1 (.slice (some ⟨V.heap.size, 0, none⟩) n n) n (icells l) ∧ X.ownsRow (V.heap.size + 1) 3 1 v ds.length (icells ds)
theorem LS.call {V X X' : World} {n : Nat} {l ds : List Int} {v : Value} (h : LS V n l ds v X) (hb : Below X.heap.size X X') : LS V n l ds v X' := ⟨below_call h.1 hb, own_call h.2.1 hb, own_call h.2.2 hb⟩
theorem LS.dr {V X : World} {n : Nat} {l ds : List Int} {v : Value} (h : LS V n l ds v X) : LS V n l ds v X.drew := h.call ⟨rfl, rfl, rfl, Nat.le_refl _, fun _ _ => rfl⟩
theorem LS.put {V X : World} {n : Nat} {l ds : List Int} {v : Value} (h : LS V n l ds v X) (s : Nat) (u : Int) : LS V n (l.set s u) ds v (X.setCell ⟨V.heap.size, s, none⟩ (.int .i64 u)) := by
  obtain ⟨h1, h2, h3⟩ := h
  obtain ⟨s1, s2⟩ := h2.stored s (.int .i64 u)
  have e : (icells l).set s (.int .i64 u) = icells (l.set s u) := by simp [icells, List.map_set]
  rw [e] at s1
  refine ⟨h1.setCell (Nat.le_refl _) _, s1, h3.kept s2 ?_⟩
  cases hv : v.ownBlock with
  | none => exact .inl rfl
  | some q =>
    refine .inr fun e => ?_
    have := (h3.lt q hv).1
    cases e
    omega
/-- The row takes its place. -/
theorem LS.app {W V X : World} {b n : Nat} {ls : List (List Int)} {l ds : List Int} {v v7 : Value} (h : ML W b ls v V) (hs : LS V n l ds v7 X) (hn : l.length = n) :
    ∃ cs : List Value, X.ownsRow b 32 1 v ls.length cs ∧ ∀ (o : Obj) (X5 : World) (gg cap : Nat), X5.ownsRow b 32 1 (.slice (some ⟨gg, 0, none⟩) (ls.length + 1) cap) (ls.length + 1) (cs ++ [.slice (some ⟨V.heap.size, 0, none⟩) n n]) → (X.alloc o).grownBy X5 v.ownBlock →
      ML W b (ls ++ [l]) (.slice (some ⟨gg, 0, none⟩) (ls.length + 1) cap) X5 ∧ Below b X X5 := by
  subst hn
  obtain ⟨b2, o3, -⟩ := hs
  obtain ⟨cs, c1, c3, c4, c5⟩ := h.parts
  have e1 := own_call c1 b2
  refine ⟨cs, e1, fun o X5 gg cap h5 hg => ?_⟩
  refine (h.call b2).app ⟨e1, fun i k hk => ?_, c4⟩ (own_base o3 h.2.2.1) (fun i c g hc hg' e => ?_) h5 hg
  · obtain ⟨c, d1, d2, d3⟩ := c3 i k hk
    exact ⟨c, d1, own_call d2 b2, fun g hg => Nat.lt_of_lt_of_le (d3 g hg) b2.size⟩
  · have := c5 i c g hc hg'
    have := (o3.lt g e).1
    omega

end Go.Proofs.Ytcoikcnijaniaaa.matR
