/- Lists of lists of integers in memory: that come in, and that a call owns (all in blocks from b on and below t). -/
import Derived.Test.YtcoikcnijaniaaaListK
import Derived.Test.YtcoikcnijaniaaaSplP
import Derived.Deep.Matrix
namespace Go.Proofs.Ytcoikcnijaniaaa.rowsP
open Go.ChangeShapes Go.WideShapes Go.ChangeAt Go.RowKit
open draw gridC mazeC intsP reachD intA intK listK
set_option linter.unusedVariables false

theorem info_row : (Try.prog.info? 32).map (fun i => (i.zero, i.size, i.bytes)) = some (some (.slice none 0 0), 1, 24) := by kernel_rfl

/-- Rows that can be read. -/
def MxIn (w : World) (B : Nat) (A : Option Addr) (ls : List (List Int)) : Prop :=
  ls ≠ [] → ∃ ad, A = some ad ∧ ad.block < B ∧ ∀ (i : Nat) (l : List Int), ls[i]? = some l → ∃ Ai ci, w.cell? (ad.add i) = some (.slice Ai l.length ci) ∧ IntsIn w B Ai l ∧ l.length ≤ ci ∧ ci ≤ maxLen
theorem MxIn.keep {w w' : World} {B : Nat} {A : Option Addr} {ls : List (List Int)} (h : MxIn w B A ls) (hk : ∀ p : Addr, p.block < B → w'.cell? p = w.cell? p) : MxIn w' B A ls := by
  intro hn
  obtain ⟨ad, e, hb, hc⟩ := h hn
  refine ⟨ad, e, hb, fun i l hl => ?_⟩
  obtain ⟨Ai, ci, h1, h2⟩ := hc i l hl
  exact ⟨Ai, ci, (hk _ (by rw [block_of_add]; exact hb)).trans h1, h2.1.keep hk, h2.2⟩
theorem MxIn.more {w : World} {B B' : Nat} {A : Option Addr} {ls : List (List Int)} (h : MxIn w B A ls) (hB : B ≤ B') : MxIn w B' A ls := by
  intro hn
  obtain ⟨ad, e, hb, hc⟩ := h hn
  refine ⟨ad, e, by omega, fun i l hl => ?_⟩
  obtain ⟨Ai, ci, h1, h2⟩ := hc i l hl
  exact ⟨Ai, ci, h1, h2.1.more hB, h2.2⟩
theorem MxIn.below {w w' : World} {B : Nat} {A : Option Addr} {ls : List (List Int)} (h : MxIn w B A ls) (hb : Below B w w') : MxIn w' B A ls := h.keep fun p hp => hb.cell hp
theorem mx_cell {w : World} {B : Nat} {A : Option Addr} {ls : List (List Int)} (h : MxIn w B A ls) {i : Nat} {l : List Int} (hl : ls[i]? = some l) : ∃ ad, A = some ad ∧ ad.block < B ∧ ∃ Ai ci, w.cell? (ad.add i) = some (.slice Ai l.length ci) ∧ IntsIn w B Ai l := by
  obtain ⟨ad, e, hb, hc⟩ := h (by intro e; rw [e] at hl; cases hl)
  obtain ⟨Ai, ci, h1, h2, -⟩ := hc i l hl
  exact ⟨ad, e, hb, Ai, ci, h1, h2⟩
theorem mx_cell2 {w : World} {B : Nat} {A : Option Addr} {ls : List (List Int)} (h : MxIn w B A ls) {i : Nat} {l : List Int} (hl : ls[i]? = some l) : ∃ ad, A = some ad ∧ ad.block < B ∧ ∃ Ai ci, w.cell? (ad.add i) = some (.slice Ai l.length ci) ∧ IntsIn w B Ai l ∧ l.length ≤ ci ∧ ci ≤ maxLen := by
  obtain ⟨ad, e, hb, hc⟩ := h (by intro e; rw [e] at hl; cases hl)
  exact ⟨ad, e, hb, hc i l hl⟩

/-- Rows that a call owns. -/
def MxOw (w : World) (b t : Nat) (v : Value) (ls : List (List Int)) : Prop :=
  ∃ cs : List Value, w.ownsRow b 32 1 v ls.length cs ∧ (∀ g, v.ownBlock = some g → g < t) ∧
    (∀ (i : Nat) (l : List Int), ls[i]? = some l → ∃ c, cs[i]? = some c ∧ w.ownsRow b 3 1 c l.length (icells l) ∧ ∀ g, c.ownBlock = some g → g < t) ∧
    ∀ (i j : Nat) (c d : Value) (g : Nat), cs[i]? = some c → cs[j]? = some d → i ≠ j → c.ownBlock = some g → d.ownBlock ≠ some g
theorem MxOw.form {w : World} {b t : Nat} {v : Value} {ls : List (List Int)} (h : MxOw w b t v ls) : ∃ A c, v = .slice A ls.length c := let ⟨_, h1, _⟩ := h; intsP.own_form h1
/-- Where only blocks outside have changed. -/
theorem own_outside {w w' : World} {b t s n : Nat} {e : TypeId} {v : Value} {xs : List Value} (h : w.ownsRow b e s v n xs) (ht : ∀ g, v.ownBlock = some g → g < t) (hk : ∀ k, b ≤ k → k < t → k < w.heap.size → w'.heap[k]? = w.heap[k]?) : w'.ownsRow b e s v n xs := by
  refine ⟨h.1, ?_⟩
  rcases h.2 with h2 | ⟨g, cap, cur, rfl, hg, hh, r⟩
  · exact .inl h2
  · exact .inr ⟨g, cap, cur, rfl, hg, (hk g hg (ht g rfl) (Array.getElem?_eq_some_iff.1 hh).1).trans hh, r⟩
theorem MxOw.outside {w w' : World} {b t : Nat} {v : Value} {ls : List (List Int)} (h : MxOw w b t v ls) (hk : ∀ k, b ≤ k → k < t → k < w.heap.size → w'.heap[k]? = w.heap[k]?) : MxOw w' b t v ls := by
  obtain ⟨cs, h1, h2, h3, h4⟩ := h
  refine ⟨cs, own_outside h1 h2 hk, h2, fun i l hl => ?_, h4⟩
  obtain ⟨c, e1, e2, e3⟩ := h3 i l hl
  exact ⟨c, e1, own_outside e2 e3 hk, e3⟩
theorem MxOw.call {w w' : World} {b t : Nat} {v : Value} {ls : List (List Int)} (h : MxOw w b t v ls) (hb : Below w.heap.size w w') : MxOw w' b t v ls := h.outside fun k _ _ hk => hb.block k hk
theorem MxOw.low {w : World} {b b' t : Nat} {v : Value} {ls : List (List Int)} (h : MxOw w b t v ls) (hb : b' ≤ b) : MxOw w b' t v ls := by
  obtain ⟨cs, h1, h2, h3, h4⟩ := h
  exact ⟨cs, own_base h1 hb, h2, fun i l hl => let ⟨c, e1, e2, e3⟩ := h3 i l hl; ⟨c, e1, own_base e2 hb, e3⟩, h4⟩
theorem MxOw.high {w : World} {b t t' : Nat} {v : Value} {ls : List (List Int)} (h : MxOw w b t v ls) (ht : t ≤ t') : MxOw w b t' v ls := by
  obtain ⟨cs, h1, h2, h3, h4⟩ := h
  exact ⟨cs, h1, fun g hg => Nat.lt_of_lt_of_le (h2 g hg) ht, fun i l hl => let ⟨c, e1, e2, e3⟩ := h3 i l hl; ⟨c, e1, e2, fun g hg => Nat.lt_of_lt_of_le (e3 g hg) ht⟩, h4⟩
theorem mx_len {w : World} {b t : Nat} {v : Value} {ls : List (List Int)} {cs : List Value} (h : w.ownsRow b 32 1 v ls.length cs) : cs.length = ls.length := by have := h.1; omega
/-- A row of them. -/
theorem MxOw.row {w : World} {b t : Nat} {A : Option Addr} {n c : Nat} {ls : List (List Int)} (h : MxOw w b t (.slice A n c) ls) {i : Nat} {l : List Int} (hl : ls[i]? = some l) :
    n = ls.length ∧ ∃ g, A = some ⟨g, 0, none⟩ ∧ b ≤ g ∧ g < t ∧ g < w.heap.size ∧ ∃ Ai ci, w.cell? ⟨g, i, none⟩ = some (.slice Ai l.length ci) ∧ w.ownsRow b 3 1 (.slice Ai l.length ci) l.length (icells l) ∧ ∀ g, (Value.slice Ai l.length ci).ownBlock = some g → g < t := by
  obtain ⟨cs, h1, h2, h3, h4⟩ := h
  have hi : i < ls.length := (List.getElem?_eq_some_iff.1 hl).1
  obtain ⟨g, cg, e, hg, hgs⟩ := own_some h1 (by omega)
  have e' := e
  injection e with e1 e2 e3
  subst e1 e2 e3
  obtain ⟨d, d1, d2, d3⟩ := h3 i l hl
  obtain ⟨Ai, ci, rfl⟩ := intsP.own_form d2
  refine ⟨rfl, g, rfl, hg, h2 g rfl, hgs, Ai, ci, ?_, d2, d3⟩
  rw [h1.cellAt i (by omega), d1]
theorem own_cap {w : World} {b s n m c : Nat} {e : TypeId} {A : Option Addr} {xs : List Value} (h : w.ownsRow b e s (.slice A n c) m xs) : n ≤ c ∧ c ≤ maxLen := by
  rcases h.2 with ⟨e1, e2⟩ | ⟨g, cap, cur, e1, _, _, h1, h2, _⟩
  · injection e1 with _ e3 e4
    subst e3 e4; exact ⟨Nat.le_refl _, Nat.zero_le _⟩
  · injection e1 with _ e3 e4
    subst e3 e4; exact ⟨h1, h2⟩
theorem MxOw.read {w : World} {b t : Nat} {A : Option Addr} {n c : Nat} {ls : List (List Int)} (h : MxOw w b t (.slice A n c) ls) : MxIn w w.heap.size A ls := by
  intro hne
  obtain ⟨l0, hl0⟩ : ∃ l, ls[0]? = some l := ⟨ls[0]'(List.length_pos_iff.2 hne), List.getElem?_eq_getElem _⟩
  obtain ⟨hn, g, rfl, hb, hgt, hgs, -⟩ := h.row hl0
  refine ⟨_, rfl, hgs, fun i l hl => ?_⟩
  obtain ⟨-, g', eg, -, -, -, Ai, ci, e1, e2, -⟩ := h.row hl
  cases eg
  refine ⟨Ai, ci, ?_, (ints_own e2).1, own_cap e2⟩
  have e3 : (⟨g, 0, none⟩ : Addr).add i = ⟨g, i, none⟩ := by
    simp [Addr.add]
    try omega
  rw [e3, e1]
theorem mx_num {w : World} {b t : Nat} {A : Option Addr} {n c : Nat} {ls : List (List Int)} (h : MxOw w b t (.slice A n c) ls) : n = ls.length := by
  obtain ⟨A', c', e⟩ := h.form
  injection e

/-- A call answers rows of its own and leaves all that was there. -/
def Mtx (ls : List (List Int)) (w : World) (e : Ending) (w' : World) : Prop := ∃ v, e = .returned v ∧ MxOw w' w.heap.size w'.heap.size v ls ∧ Below w.heap.size w w'
theorem mtx_mk {ls : List (List Int)} {w w' : World} {v : Value} {b t : Nat} (ho : MxOw w' b t v ls) (hB : w.heap.size ≤ b) (ht : t ≤ w'.heap.size) (hb : Below w.heap.size w w') : Mtx ls w (.returned v) w' := ⟨v, rfl, (ho.low hB).high ht, hb⟩

/-- Rows that are written, in blocks from b on. -/
def ML (W : World) (b : Nat) (ls : List (List Int)) (v : Value) (X : World) : Prop := Below W.heap.size W X ∧ W.heap.size ≤ b ∧ b ≤ X.heap.size ∧ MxOw X b X.heap.size v ls
theorem MxOw.grow {X X' : World} {b : Nat} {v : Value} {ls : List (List Int)} (h : MxOw X b X.heap.size v ls) (hb : Below X.heap.size X X') : MxOw X' b X'.heap.size v ls := (h.call hb).high hb.size
theorem ML.call {W X X' : World} {b : Nat} {ls : List (List Int)} {v : Value} (h : ML W b ls v X) (hb : Below X.heap.size X X') : ML W b ls v X' := ⟨below_call h.1 hb, h.2.1, Nat.le_trans h.2.2.1 hb.size, h.2.2.2.grow hb⟩
theorem ML.dr {W X : World} {b : Nat} {ls : List (List Int)} {v : Value} (h : ML W b ls v X) : ML W b ls v X.drew := h.call ⟨rfl, rfl, rfl, Nat.le_refl _, fun _ _ => rfl⟩
theorem ML.form {W X : World} {b : Nat} {ls : List (List Int)} {v : Value} (h : ML W b ls v X) : ∃ A c, v = .slice A ls.length c := h.2.2.2.form
theorem ml_new {W X : World} (h : Below W.heap.size W X) (hz : W.heap.size ≤ X.heap.size) : ML W X.heap.size [] (.slice (some ⟨X.heap.size, 0, none⟩) 0 0) (X.alloc (.cells #[] 32)) := by
  refine ⟨h.alloc hz _, hz, by simp, [], ?_, fun g hg => ?_, fun i l hl => by simp at hl, fun i j c d g hc => by simp at hc⟩
  · have := World.ownsRow_lit (base := X.heap.size) (e := 32) (size := 1) X #[] 0 (Nat.le_refl _) (by decide) rfl
    simpa using this
  · cases hg; simp
theorem ml_nil {W X : World} {b : Nat} (h : Below W.heap.size W X) (hW : W.heap.size ≤ b) (hb : b ≤ X.heap.size) : ML W b [] (.slice none 0 0) X :=
  ⟨h, hW, hb, [], World.ownsRow_nil X b 32 1, fun _ hg => (by cases hg), fun _ _ hl => (by simp at hl), fun _ _ _ _ _ hc => (by simp at hc)⟩
/-- A row is appended that lies apart. -/
theorem ML.app {W X X' : World} {b gg cap : Nat} {ls : List (List Int)} {v r : Value} {o : Obj} {l : List Int} {cs : List Value} (h : ML W b ls v X)
    (hcs : X.ownsRow b 32 1 v ls.length cs ∧ (∀ (i : Nat) (l : List Int), ls[i]? = some l → ∃ c, cs[i]? = some c ∧ X.ownsRow b 3 1 c l.length (icells l) ∧ ∀ g, c.ownBlock = some g → g < X.heap.size) ∧ ∀ (i j : Nat) (c d : Value) (g : Nat), cs[i]? = some c → cs[j]? = some d → i ≠ j → c.ownBlock = some g → d.ownBlock ≠ some g)
    (hr : X.ownsRow b 3 1 r l.length (icells l)) (hra : ∀ (i : Nat) (c : Value) (g : Nat), cs[i]? = some c → c.ownBlock = some g → r.ownBlock ≠ some g)
    (ho : X'.ownsRow b 32 1 (.slice (some ⟨gg, 0, none⟩) (ls.length + 1) cap) (ls.length + 1) (cs ++ [r])) (hg : (X.alloc o).grownBy X' v.ownBlock) :
    ML W b (ls ++ [l]) (.slice (some ⟨gg, 0, none⟩) (ls.length + 1) cap) X' ∧ Below b X X' := by
  obtain ⟨h1, h2, h3, -⟩ := h
  obtain ⟨c1, c3, c4⟩ := hcs
  have hlen : cs.length = ls.length := by have := c1.1; omega
  have hb : Below b X X' := below_app (Below.refl _ _) (Nat.le_refl _) h3 c1 hg
  have hkeep : ∀ {c : Value} {m : Nat} {xs : List Value}, X.ownsRow b 3 1 c m xs → X'.ownsRow b 3 1 c m xs := fun hc => (hc.alloc o).kept hg (splP.own_ne hc c1 (by decide))
  refine ⟨⟨below_app h1 h2 (Nat.le_refl _) c1 hg, h2, Nat.le_trans h3 hb.size, cs ++ [r], by rw [List.length_append]; exact ho, fun g e => by cases e; exact own_lt ho gg rfl, fun i k hi => ?_, fun i j c d g hc hd hij hcg => ?_⟩, hb⟩
  · by_cases hil : i < ls.length
    · rw [List.getElem?_append_left hil] at hi
      obtain ⟨c, e1, e2, e3⟩ := c3 i k hi
      exact ⟨c, by rw [List.getElem?_append_left (by omega)]; exact e1, hkeep e2, fun g hgc => Nat.lt_of_lt_of_le (e3 g hgc) hb.size⟩
    · have hi2 : i = ls.length := by
        have := (List.getElem?_eq_some_iff.1 hi).1
        simp at this; omega
      subst hi2
      rw [List.getElem?_append_right (Nat.le_refl _), Nat.sub_self] at hi
      obtain rfl : l = k := by simpa using hi
      exact ⟨r, by rw [List.getElem?_append_right (by omega), hlen, Nat.sub_self]; rfl, hkeep hr, fun g hgc => Nat.lt_of_lt_of_le (own_lt hr g hgc) hb.size⟩
  · have hcase : ∀ {i c}, (cs ++ [r])[i]? = some c → (i < cs.length ∧ cs[i]? = some c) ∨ (i = cs.length ∧ c = r) := fun {i c} hc => by
      by_cases hi : i < cs.length
      · rw [List.getElem?_append_left hi] at hc; exact .inl ⟨hi, hc⟩
      · have := (List.getElem?_eq_some_iff.1 hc).1
        simp at this
        have hi2 : i = cs.length := by omega
        subst hi2
        rw [List.getElem?_append_right (Nat.le_refl _), Nat.sub_self] at hc
        exact .inr ⟨rfl, by simpa using hc.symm⟩
    rcases hcase hc with ⟨hi, hc2⟩ | ⟨hi, hc2⟩ <;> rcases hcase hd with ⟨hj, hd2⟩ | ⟨hj, hd2⟩
    · exact c4 i j c d g hc2 hd2 hij hcg
    · rw [hd2]; exact hra i c g hc2 hcg
    · intro e; exact hra j d g hd2 e (by rw [← hc2]; exact hcg)
    · omega
/-- The rows' own cells, for an append. -/
theorem ML.parts {W X : World} {b : Nat} {ls : List (List Int)} {v : Value} (h : ML W b ls v X) : ∃ cs : List Value, X.ownsRow b 32 1 v ls.length cs ∧ (∀ (i : Nat) (l : List Int), ls[i]? = some l → ∃ c, cs[i]? = some c ∧ X.ownsRow b 3 1 c l.length (icells l) ∧ ∀ g, c.ownBlock = some g → g < X.heap.size) ∧ (∀ (i j : Nat) (c d : Value) (g : Nat), cs[i]? = some c → cs[j]? = some d → i ≠ j → c.ownBlock = some g → d.ownBlock ≠ some g) ∧
    ∀ (i : Nat) (c : Value) (g : Nat), cs[i]? = some c → c.ownBlock = some g → g < X.heap.size := by
  obtain ⟨-, -, -, cs, h1, h2, h3, h4⟩ := h
  refine ⟨cs, h1, h3, h4, fun i c g hc hg => ?_⟩
  have hi : i < ls.length := by have := (List.getElem?_eq_some_iff.1 hc).1; have := h1.1; omega
  obtain ⟨c', e1, e2, e3⟩ := h3 i _ (List.getElem?_eq_getElem hi)
  rw [hc] at e1
  cases e1
  exact e3 g hg
/-- What an owned row's cells are. -/
theorem own_det {X : World} {b b' s n : Nat} {e : TypeId} {v : Value} {xs ys : List Value} (h : X.ownsRow b e s v n xs) (h' : X.ownsRow b' e s v n ys) : xs = ys := by
  have hl := h.1
  have hl' := h'.1
  rcases h.2 with ⟨e1, e2⟩ | ⟨g1, cap1, cur1, e1, _, e3, _, _, _, e4⟩
  · subst e2
    rw [List.eq_nil_of_length_eq_zero (show xs.length = 0 by omega), List.eq_nil_of_length_eq_zero (show ys.length = 0 by omega)]
  · rcases h'.2 with ⟨e1', e2'⟩ | ⟨g1', cap1', cur1', e1', _, e3', _, _, _, e4'⟩
    · rw [e1] at e1'; cases e1'
    · rw [e1] at e1'; cases e1'
      rw [e3] at e3'; cases e3'
      rw [← e4, ← e4']
/-- The number in a row's cell is a row's value. -/
def RowAt (X : World) (b : Nat) (v : Value) (n i : Nat) (c : Value) : Prop := ∃ cs : List Value, X.ownsRow b 32 1 v n cs ∧ cs[i]? = some c
theorem row_at {X : World} {b g n i cg : Nat} {c : Value} {ls : List (List Int)} {t : Nat} (h : MxOw X b t (.slice (some ⟨g, 0, none⟩) n cg) ls) (hi : i < ls.length) (hc : X.cell? ⟨g, i, none⟩ = some c) : RowAt X b (.slice (some ⟨g, 0, none⟩) n cg) n i c := by
  have hn := mx_num h
  obtain ⟨cs, h1, -⟩ := h
  subst hn
  exact ⟨cs, h1, by rw [← hc, h1.cellAt i (by omega)]⟩
/-- One row changes in its own block. -/
theorem MxOw.upd {X X' : World} {b t i : Nat} {v c : Value} {ls : List (List Int)} {l l' : List Int} (h : MxOw X b t v ls) (hl : ls[i]? = some l) (hc : RowAt X b v ls.length i c) (hl' : l'.length = l.length) (ho : X'.ownsRow b 3 1 c l.length (icells l')) (hg : X.grownBy X' c.ownBlock) : MxOw X' b t v (ls.set i l') := by
  obtain ⟨cs, h1, h2, h3, h4⟩ := h
  obtain ⟨cs', h1', hci⟩ := hc
  obtain rfl := own_det h1 h1'
  obtain ⟨c', e1, e2, e3⟩ := h3 i l hl
  rw [hci] at e1
  cases e1
  refine ⟨cs, ?_, h2, fun k m hk => ?_, h4⟩
  · rw [List.length_set]
    exact h1.kept hg (splP.own_ne h1 e2 (by decide))
  · by_cases hki : k = i
    · subst hki
      rw [List.getElem?_set_self (List.getElem?_eq_some_iff.1 hl).1] at hk
      obtain rfl : l' = m := Option.some.inj hk
      exact ⟨c, hci, by rw [hl']; exact ho, e3⟩
    · rw [List.getElem?_set_ne (fun e => hki e.symm)] at hk
      obtain ⟨d, d1, d2, d3⟩ := h3 k m hk
      refine ⟨d, d1, d2.kept hg ?_, d3⟩
      cases hd : d.ownBlock with
      | none => exact .inl rfl
      | some q =>
        refine .inr fun e => ?_
        exact h4 k i d c q d1 hci hki hd (by rw [← e])
/-- One number is stored. -/
theorem MxOw.put {X : World} {b t g i j ci : Nat} {v : Value} {ls : List (List Int)} {l : List Int} (h : MxOw X b t v ls) (hl : ls[i]? = some l) (hc : RowAt X b v ls.length i (.slice (some ⟨g, 0, none⟩) l.length ci)) (z : Int) :
    MxOw (X.setCell ⟨g, j, none⟩ (.int .i64 z)) b t v (ls.set i (l.set j z)) ∧ X.grownBy (X.setCell ⟨g, j, none⟩ (.int .i64 z)) (some g) ∧ b ≤ g ∧ g < t := by
  obtain ⟨cs, h1, h2, h3, h4⟩ := id h
  obtain ⟨cs', h1', hci⟩ := id hc
  obtain rfl := own_det h1 h1'
  obtain ⟨c, e1, e2, e3⟩ := h3 i l hl
  rw [hci] at e1
  cases e1
  obtain ⟨s1, s2⟩ := e2.stored j (.int .i64 z)
  have hset : (icells l).set j (.int .i64 z) = icells (l.set j z) := by simp [icells, List.map_set]
  rw [hset] at s1
  exact ⟨h.upd hl hc (by simp) s1 s2, s2, (e2.lt g rfl).1, e3 g rfl⟩
/-- A row that lies apart takes a place. -/
theorem MxOw.take {X : World} {b t t' g i n cg : Nat} {r : Value} {ls : List (List Int)} {l : List Int} (h : MxOw X b t (.slice (some ⟨g, 0, none⟩) n cg) ls) (hi : i < ls.length) (ht : t ≤ t') (hr : X.ownsRow b 3 1 r l.length (icells l)) (hra : ∀ q, r.ownBlock = some q → t ≤ q ∧ q < t') :
    MxOw (X.setCell ⟨g, i, none⟩ r) b t' (.slice (some ⟨g, 0, none⟩) n cg) (ls.set i l) := by
  have hn := mx_num h
  subst hn
  obtain ⟨cs, h1, h2, h3, h4⟩ := h
  obtain ⟨s1, s2⟩ := h1.stored i r
  have hcl : cs.length = ls.length := by have := h1.1; omega
  refine ⟨cs.set i r, by rw [List.length_set]; exact s1, fun q e => Nat.lt_of_lt_of_le (h2 q e) ht, fun k m hk => ?_, fun k j c d q hc hd hkj hq => ?_⟩
  · by_cases hki : k = i
    · subst hki
      rw [List.getElem?_set_self hi] at hk
      obtain rfl : l = m := Option.some.inj hk
      exact ⟨r, List.getElem?_set_self (by omega), hr.kept s2 (splP.own_ne hr h1 (by decide)), fun q e => (hra q e).2⟩
    · rw [List.getElem?_set_ne (fun e => hki e.symm)] at hk
      obtain ⟨d, d1, d2, d3⟩ := h3 k m hk
      exact ⟨d, by rw [List.getElem?_set_ne (fun e => hki e.symm)]; exact d1, d2.kept s2 (splP.own_ne d2 h1 (by decide)), fun q e => Nat.lt_of_lt_of_le (d3 q e) ht⟩
  · have hold : ∀ {k c}, k ≠ i → (cs.set i r)[k]? = some c → cs[k]? = some c ∧ ∀ q, c.ownBlock = some q → q < t := fun {k c} hki hc => by
      rw [List.getElem?_set_ne (fun e => hki e.symm)] at hc
      have hk : k < ls.length := by have := (List.getElem?_eq_some_iff.1 hc).1; omega
      obtain ⟨c', e1, e2, e3⟩ := h3 k _ (List.getElem?_eq_getElem hk)
      rw [hc] at e1; cases e1
      exact ⟨hc, e3⟩
    by_cases hki : k = i
    · subst hki
      rw [List.getElem?_set_self (by omega)] at hc
      obtain rfl : r = c := Option.some.inj hc
      obtain ⟨hd1, hd2⟩ := hold (fun e => hkj e.symm) hd
      intro e
      have := (hra q hq).1
      have := hd2 q e
      omega
    · obtain ⟨hc1, hc2⟩ := hold hki hc
      by_cases hji : j = i
      · subst hji
        rw [List.getElem?_set_self (by omega)] at hd
        obtain rfl : r = d := Option.some.inj hd
        intro e
        have := (hra q e).1
        have := hc2 q hq
        omega
      · exact h4 k j c d q hc1 (hold hji hd).1 hkj hq
theorem made_rows : ∀ n : Nat, (madeCells (Value.slice none 0 0).cells n).toList = List.replicate n (.slice none 0 0) := by
  intro n
  simp [madeCells, Value.cells]
  apply List.ext_getElem
  · simp
  · intro i h1 h2; simp [Nat.mod_one]
/-- Rows that were just made, all nil. -/
theorem mx_made {X : World} {b : Nat} (hb : b ≤ X.heap.size) (n : Nat) (hm : n ≤ maxLen) : MxOw (X.alloc (.cells (madeCells (Value.slice none 0 0).cells n) 32)) b (X.heap.size + 1) (.slice (some ⟨X.heap.size, 0, none⟩) n n) (List.replicate n []) := by
  refine ⟨List.replicate n (.slice none 0 0), ?_, fun g e => by cases e; exact Nat.lt_succ_self _, fun i l hl => ?_, fun i j c d g hc hd _ hg => ?_⟩
  · have := World.ownsRow_lit (base := b) (e := 32) (size := 1) X (madeCells (Value.slice none 0 0).cells n) n hb hm (by rw [size_madeCells]; omega)
    rw [made_rows] at this
    simpa using this
  · have hi : i < n := by have := (List.getElem?_eq_some_iff.1 hl).1; simpa using this
    rw [List.getElem?_replicate, if_pos hi] at hl
    obtain rfl : [] = l := Option.some.inj hl
    exact ⟨.slice none 0 0, by rw [List.getElem?_replicate, if_pos hi], World.ownsRow_nil _ b 3 1, fun g e => by cases e⟩
  · have hi : i < n := by have := (List.getElem?_eq_some_iff.1 hc).1; simpa using this
    rw [List.getElem?_replicate, if_pos hi] at hc
    obtain rfl := Option.some.inj hc
    cases hg
/-- Only blocks from b on and below t have changed. -/
def KeptO (b t : Nat) (w w' : World) : Prop := w'.os = w.os ∧ w'.tape = w.tape ∧ w'.output = w.output ∧ w.heap.size ≤ w'.heap.size ∧ ∀ k, k < w.heap.size → (k < b ∨ t ≤ k) → w'.heap[k]? = w.heap[k]?
theorem kept_refl (b t : Nat) (w : World) : KeptO b t w w := ⟨rfl, rfl, rfl, Nat.le_refl _, fun _ _ _ => rfl⟩
theorem KeptO.grown {b t : Nat} {w X X' : World} {row : Option Nat} (h : KeptO b t w X) (hg : X.grownBy X' row) (hr : ∀ g, row = some g → b ≤ g ∧ g < t) : KeptO b t w X' :=
  ⟨hg.os.trans h.1, hg.tape.trans h.2.1, hg.output.trans h.2.2.1, Nat.le_trans h.2.2.2.1 hg.size, fun k hk hkk => (hg.block k (Nat.lt_of_lt_of_le hk h.2.2.2.1) (fun e => by have := hr k e.symm; omega)).trans (h.2.2.2.2 k hk hkk)⟩
theorem KeptO.below {b t B : Nat} {W w w' : World} (h : KeptO b t w w') (hb : Below B W w) (hB : B ≤ b) (hw : B ≤ w.heap.size) : Below B W w' := hb.trans ⟨h.1, h.2.1, h.2.2.1, h.2.2.2.1, fun k hk => h.2.2.2.2 k (by omega) (.inl (by omega))⟩
theorem KeptO.mx {b t b' t' : Nat} {w w' : World} {v : Value} {ls : List (List Int)} (h : KeptO b t w w') (hm : MxOw w b' t' v ls) (ha : t' ≤ b ∨ t ≤ b') : MxOw w' b' t' v ls := hm.outside fun k h1 h2 hk => h.2.2.2.2 k hk (by omega)
theorem KeptO.own {b t b' s n : Nat} {e : TypeId} {w w' : World} {v : Value} {xs : List Value} (h : KeptO b t w w') (hm : w.ownsRow b' e s v n xs) (ha : ∀ g, v.ownBlock = some g → g < b ∨ t ≤ g) : w'.ownsRow b' e s v n xs := by
  refine ⟨hm.1, ?_⟩
  rcases hm.2 with h2 | ⟨g, cap, cur, rfl, hg, hh, r⟩
  · exact .inl h2
  · exact .inr ⟨g, cap, cur, rfl, hg, (h.2.2.2.2 g (Array.getElem?_eq_some_iff.1 hh).1 (ha g rfl)).trans hh, r⟩
theorem KeptO.mbox {b t q : Nat} {x y z : Int} {w w' : World} (h : KeptO b t w w') (hm : MBox q x y z w) (ha : q < b) : MBox q x y z w' := by
  obtain ⟨⟨c0, c1, c2⟩, hl⟩ := hm
  have hb : Below (q + 1) w w' := ⟨h.1, h.2.1, h.2.2.1, h.2.2.2.1, fun k hk => h.2.2.2.2 k (by omega) (.inl (by omega))⟩
  exact mbox_keep ⟨⟨c0, c1, c2⟩, hl⟩ (Nat.lt_succ_self q) hb

section
variable {H : Type} {enc : TypeId × Value → H} {P : Program}
open Go.Deep in
/-- Rows that come in. -/
theorem open_rowS {t e q : TypeId} (ht : P.underlying t = some (.slice e)) (he : P.underlying e = some (.slice q)) (hq : P.underlying q = some (.int .i64)) (ce : P.cellsOf e = 1) (cq : P.cellsOf q = 1) {W : World} {base : Nat} {v : Value} {d : DataW H} {ps : List MemPlace}
    (hval : Value.okWide P W .any base t v) (h : DataW.Trod enc P W 0 (fun _ => true) true t v d ps) (hlt : ∀ x ∈ ps, x.block < W.heap.size) :
    ∃ A c ls, v = .slice A ls.length c ∧ ls.length ≤ maxLen ∧ (∀ l ∈ ls, l.length ≤ maxLen) ∧ MxIn W W.heap.size A ls := by
  obtain ⟨A, n, c, rfl⟩ := okWide_slice ht hval
  obtain ⟨fuel, hf⟩ := h
  rcases open_int_rows ht he hq ce cq hf with ⟨hcs, _⟩ | ⟨a, len', cap', AA, L, C, Z, hcs, _, hl, hm, hx, hcell⟩
  · simp [Value.cells] at hcs
    obtain ⟨rfl, rfl, rfl⟩ := hcs
    exact ⟨none, 0, [], rfl, Nat.zero_le _, fun u hu => by simp at hu, fun h0 => absurd rfl h0⟩
  · simp [Value.cells] at hcs
    obtain ⟨rfl, rfl, rfl⟩ := hcs
    simp only [Prod.mk.injEq] at hx
    obtain ⟨-, rfl⟩ := hx
    refine ⟨some a, c, (List.range n).map fun r => (Z r).take (L r), by simp, ?_, fun l hl => ?_, fun h0 => ⟨a, rfl, ?_, fun i l hi => ?_⟩⟩
    · simp; omega
    · obtain ⟨r, hr, rfl⟩ := List.mem_map.1 hl
      have hr := List.mem_range.1 hr
      obtain ⟨-, h2, h3, h4, -⟩ := hcell r (by omega)
      rw [List.length_take]; omega
    · have hn0 : 0 < n := by
        rcases Nat.eq_zero_or_pos n with e | e
        · subst e; simp at h0
        · exact e
      obtain ⟨b, off, spot⟩ := a
      exact hlt (.cell b off) (List.mem_append.2 (.inl (MemPlace.mem_row.2 ⟨0, by omega, by simp⟩)))
    · obtain ⟨hi1, hi2⟩ := List.getElem?_eq_some_iff.1 hi
      simp at hi1 hi2
      obtain ⟨h1, h2, h3, h4, h5, h6, h7⟩ := hcell i (by omega)
      have hll : l.length = L i := by rw [← hi2, List.length_take]; omega
      refine ⟨AA i, C i, by rw [h1, hll], fun hne => ?_, by omega, h3⟩
      have hpos : 0 < L i := by rw [← hll]; exact List.length_pos_iff.2 hne
      cases hA : AA i with
      | none => have := h6 hA; omega
      | some a' =>
        obtain ⟨h8, h9⟩ := h7 a' hA
        refine ⟨a', rfl, ?_, fun j u hj => ?_⟩
        · obtain ⟨b', off', spot'⟩ := a'
          refine hlt (.cell b' off') (List.mem_append.2 (.inr (List.mem_flatMap.2 ⟨i, List.mem_range.2 (by omega), ?_⟩)))
          unfold intRowPlaces
          rw [hA]
          exact MemPlace.mem_row.2 ⟨0, by omega, by simp⟩
        · have hjl : j < l.length := (List.getElem?_eq_some_iff.1 hj).1
          rw [h9 j (by omega), List.getD_eq_getElem?_getD]
          rw [← hi2, List.getElem?_take_of_lt (by omega)] at hj
          rw [hj]; rfl
end
end Go.Proofs.Ytcoikcnijaniaaa.rowsP
