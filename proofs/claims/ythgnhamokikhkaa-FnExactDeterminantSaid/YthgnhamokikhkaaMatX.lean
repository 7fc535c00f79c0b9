/- Rows exchanged: the plain facts, and lists of rows that share their rows with another. -/
import Derived.Test.YthgnhamokikhkaaMatP
import Derived.Test.YthgnhamokikhkaaRowsP
namespace Go.Proofs.Ythgnhamokikhkaa.matX
open Go.ChangeShapes Go.WideShapes Go.ChangeAt Go.RowKit
open draw gridC mazeC intsP reachD intA intK listK rowsP matP detP
set_option linter.unusedVariables false

theorem dt_exch {a b : Nat → Nat → Int} {I : List Nat} {i k : Nat} (hI : I.Nodup) (hi : i ∈ I) (hk : k ∈ I) (hne : i ≠ k) (hbi : b i = a k) (hbk : b k = a i) (ho : ∀ r, r ≠ i → r ≠ k → b r = a r) (cs : List Nat) :
    dt (I.map b) cs = - dt (I.map a) cs := by
  have hm : ∀ s : List Nat, i ∉ s → k ∉ s → s.map b = s.map a := fun s h1 h2 => List.map_congr_left fun r hr => ho r (fun e => h1 (e ▸ hr)) (fun e => h2 (e ▸ hr))
  obtain ⟨s, t, rfl⟩ := List.append_of_mem hi
  obtain ⟨n1, n2, n3⟩ := List.nodup_append.1 hI
  have his : i ∉ s := fun h => n3 i h i List.mem_cons_self rfl
  have hit : i ∉ t := (List.nodup_cons.1 n2).1
  rcases List.mem_append.1 hk with h | h
  · have hkt : k ∉ t := fun h' => n3 k h k (List.mem_cons_of_mem _ h') rfl
    obtain ⟨p, q, rfl⟩ := List.append_of_mem h
    obtain ⟨m1, m2, m3⟩ := List.nodup_append.1 n1
    have hkp : k ∉ p := fun h => m3 k h k List.mem_cons_self rfl
    have hkq : k ∉ q := (List.nodup_cons.1 m2).1
    have hip : i ∉ p := fun h => his (List.mem_append.2 (.inl h))
    have hiq : i ∉ q := fun h => his (List.mem_append.2 (.inr (List.mem_cons_of_mem _ h)))
    simp only [List.map_append, List.map_cons, hm p hip hkp, hm q hiq hkq, hm t hit hkt, hbi, hbk, List.append_assoc, List.cons_append]
    exact dt_swap _ _ _ _ _ cs
  · have h := (List.mem_cons.1 h).resolve_left (fun e => hne e.symm)
    have hks : k ∉ s := fun h' => n3 k h' k (List.mem_cons_of_mem _ h) rfl
    obtain ⟨p, q, rfl⟩ := List.append_of_mem h
    obtain ⟨m1, m2, m3⟩ := List.nodup_append.1 (List.nodup_cons.1 n2).2
    have hkp : k ∉ p := fun h => m3 k h k List.mem_cons_self rfl
    have hkq : k ∉ q := (List.nodup_cons.1 m2).1
    have hip : i ∉ p := fun h => hit (List.mem_append.2 (.inl h))
    have hiq : i ∉ q := fun h => hit (List.mem_append.2 (.inr (List.mem_cons_of_mem _ h)))
    simp only [List.map_append, List.map_cons, hm s his hks, hm p hip hkp, hm q hiq hkq, hbi, hbk]
    exact dt_swap _ _ _ _ _ cs
theorem dt_equal {b : Nat → Nat → Int} {I : List Nat} {i k : Nat} (hi : i ∈ I) (hk : k ∈ I) (hne : i ≠ k) (hb : b i = b k) (cs : List Nat) : dt (I.map b) cs = 0 := by
  obtain ⟨s, t, rfl⟩ := List.append_of_mem hi
  have hm : b i ∈ s.map b ++ t.map b := by
    rw [hb, ← List.map_append]
    refine List.mem_map.2 ⟨k, ?_, rfl⟩
    rcases List.mem_append.1 hk with h | h
    · exact List.mem_append.2 (.inl h)
    · exact List.mem_append.2 (.inr ((List.mem_cons.1 h).resolve_left (fun e => hne e.symm)))
  rw [List.map_append, List.map_cons, dt_move, dt_twice hm, Int.mul_zero]

theorem sq_rows {ls ms : List (List Int)} (h : sqB ls = true) (hl : ms.length = ls.length) (hm : ∀ l ∈ ms, l ∈ ls) : sqB ms = true := by
  unfold sqB at h ⊢
  rw [Bool.and_eq_true, List.all_eq_true] at h ⊢
  rw [hl]
  exact ⟨fun l hl => h.1 l (hm l hl), h.2⟩
theorem mem_set2 {ls : List (List Int)} {i : Nat} {l m : List Int} (hl : l ∈ ls) (hm : m ∈ ls.set i l) : m ∈ ls := by
  rcases List.mem_or_eq_of_mem_set hm with h | h
  · exact h
  · rw [h]; exact hl
theorem mfn_row {ls ms : List (List Int)} {i k : Nat} (h : ms[i]? = ls[k]?) : mfn ms i = mfn ls k := by
  funext j; simp [mfn, List.getD_eq_getElem?_getD, h]
theorem wrap_zero : wrap64 0 = 0 := by unfold wrap64; omega
/-- Two rows exchanged: the sign changes; a row put in another's place: 0. -/
theorem exch {ls : List (List Int)} {i k : Nat} {li lk : List Int} (hq : sqB ls = true) (hne : i ≠ k) (hi : ls[i]? = some li) (hk : ls[k]? = some lk) :
    deZ ((ls.set i lk).set k li) = wrap64 (- deZ ls) ∧ deZ (ls.set i lk) = 0 ∧ sqB ((ls.set i lk).set k li) = true ∧ sqB (ls.set i lk) = true := by
  have hil : i < ls.length := (List.getElem?_eq_some_iff.1 hi).1
  have hkl : k < ls.length := (List.getElem?_eq_some_iff.1 hk).1
  have mi : li ∈ ls := List.mem_of_getElem? hi
  have mk : lk ∈ ls := List.mem_of_getElem? hk
  have q1 : sqB (ls.set i lk) = true := sq_rows hq (by simp) fun l hl => mem_set2 mk hl
  have q2 : sqB ((ls.set i lk).set k li) = true := sq_rows hq (by simp) fun l hl => by
    rcases List.mem_or_eq_of_mem_set hl with h | h
    · exact mem_set2 mk h
    · rw [h]; exact mi
  have hn : ((List.range ls.length).reverse).Nodup := List.pairwise_reverse.2 (List.Pairwise.imp (fun h e => h e.symm) List.nodup_range)
  have hii : i ∈ (List.range ls.length).reverse := List.mem_reverse.2 (List.mem_range.2 hil)
  have hkk : k ∈ (List.range ls.length).reverse := List.mem_reverse.2 (List.mem_range.2 hkl)
  refine ⟨?_, ?_, q2, q1⟩
  · unfold deZ
    rw [if_pos q2, if_pos hq, wrap_neg, List.length_set, List.length_set]
    congr 1
    unfold dm
    refine dt_exch hn hii hkk hne ?_ ?_ (fun r h1 h2 => ?_) _
    · exact mfn_row (by rw [List.getElem?_set_ne (fun e => hne e.symm), List.getElem?_set_self hil, hk])
    · exact mfn_row (by rw [List.getElem?_set_self (by simpa using hkl), hi])
    · exact mfn_row (by rw [List.getElem?_set_ne (fun e => h2 e.symm), List.getElem?_set_ne (fun e => h1 e.symm)])
  · unfold deZ
    rw [if_pos q1, List.length_set]
    have : dm (mfn (ls.set i lk)) (List.range ls.length) = 0 := by
      unfold dm
      refine dt_equal hii hkk hne ?_ _
      funext j
      simp [mfn, List.getD_eq_getElem?_getD, List.getElem?_set_self hil, List.getElem?_set_ne hne, hk]
    rw [this, wrap_zero]

/-- Cells that hold rows that can be read. -/
def RowsOf (X : World) (B : Nat) (ds : List Value) (ls : List (List Int)) : Prop := ∀ (r : Nat) (l : List Int), ls[r]? = some l → ∃ Ai ci, ds[r]? = some (.slice Ai l.length ci) ∧ IntsIn X B Ai l ∧ l.length ≤ ci ∧ ci ≤ maxLen
theorem RowsOf.below {X X' : World} {B : Nat} {ds : List Value} {ls : List (List Int)} (h : RowsOf X B ds ls) (hb : Below B X X') : RowsOf X' B ds ls := fun r l hl => by
  obtain ⟨Ai, ci, h1, h2, h3⟩ := h r l hl
  exact ⟨Ai, ci, h1, h2.keep fun p hp => hb.cell hp, h3⟩
theorem RowsOf.put {X : World} {B i k : Nat} {ds : List Value} {ls : List (List Int)} {l : List Int} {c : Value} (h : RowsOf X B ds ls) (hl : ls[k]? = some l) (hc : ds[k]? = some c) {es : List Value} {ms : List (List Int)} (h' : RowsOf X B es ms) (he : es.length = ms.length) : RowsOf X B (es.set i c) (ms.set i l) := fun r m hm => by
  by_cases hr : r = i
  · subst hr
    have hlt : r < ms.length := by have := (List.getElem?_eq_some_iff.1 hm).1; simpa using this
    rw [List.getElem?_set_self hlt] at hm
    obtain rfl := Option.some.inj hm
    obtain ⟨Ai, ci, h1, h2⟩ := h k l hl
    rw [hc] at h1
    exact ⟨Ai, ci, by rw [List.getElem?_set_self (by omega), Option.some.inj h1], h2⟩
  · rw [List.getElem?_set_ne (fun e => hr e.symm)] at hm ⊢
    exact h' r m hm
theorem rows_own {X : World} {b t : Nat} {v : Value} {ls : List (List Int)} (h : MxOw X b t v ls) : ∃ cs : List Value, X.ownsRow b 34 1 v ls.length cs ∧ RowsOf X X.heap.size cs ls := by
  obtain ⟨cs, h1, h2, h3, h4⟩ := h
  refine ⟨cs, h1, fun r l hl => ?_⟩
  obtain ⟨c, e1, e2, e3⟩ := h3 r l hl
  obtain ⟨Ai, ci, rfl⟩ := intsP.own_form e2
  exact ⟨Ai, ci, e1, (ints_own e2).1, own_cap e2⟩
theorem RowsOf.mx {X : World} {b B n : Nat} {A : Option Addr} {c : Nat} {ds : List Value} {ls : List (List Int)} (h : RowsOf X B ds ls) (hB : B ≤ X.heap.size) (ho : X.ownsRow b 34 1 (.slice A n c) n ds) (hn : n = ls.length) : MxIn X X.heap.size A ls := by
  subst hn
  intro hne
  obtain ⟨g, cg, e, hg, hgs⟩ := own_some ho (List.length_pos_iff.2 hne)
  injection e with e1 e2 e3
  subst e1 e3
  refine ⟨_, rfl, hgs, fun i l hl => ?_⟩
  obtain ⟨Ai, ci, h1, h2, h3⟩ := h i l hl
  refine ⟨Ai, ci, ?_, h2.more hB, h3⟩
  have e3 : (⟨g, 0, none⟩ : Addr).add i = ⟨g, i, none⟩ := by
    simp [Addr.add]
    try omega
  rw [e3, ho.cellAt i (by have := (List.getElem?_eq_some_iff.1 hl).1; omega), h1]
end Go.Proofs.Ythgnhamokikhkaa.matX
