/- The program's search: its ways from a cell, its cells that wait in a channel. -/
import Derived.Test.YtomjfcmaoeoigaaReachD
import Derived.Test.YtomjfcmaoeoigaaComP
namespace Go.Proofs.Ytomjfcmaoeoigaa.reachQ
open Go.ChangeShapes Go.WideShapes Go.ChangeAt Go.RowKit Go.Conc
open draw gridP gridC bitP mazeP mazeC mazeM intsP reachP reachM reachN reachD comP
set_option linter.unusedVariables false

theorem wl_mono (x y z u : Int) (q : Nat) : ∀ n, q ≤ n → (wlN x y z u q).length ≤ (wlN x y z u n).length := by
  intro n hn
  induction n with
  | zero => obtain rfl : q = 0 := by omega
            exact Nat.le_refl _
  | succ n ih =>
    rcases Nat.lt_or_ge n q with h | h
    · obtain rfl : q = n + 1 := by omega
      exact Nat.le_refl _
    · refine Nat.le_trans (ih h) ?_
      rw [wlN]
      split
      · simp
      · exact Nat.le_refl _
theorem wl_step {x y z u : Int} {q : Nat} (h : 0 ≤ stZ x y z u q) : (wlN x y z u (q + 1)).length = (wlN x y z u q).length + 1 := by
  rw [wlN, if_pos h, List.length_append]; rfl
theorem wl_none {x y z u : Int} {q n : Nat} (he : (wlN x y z u n).length ≤ (wlN x y z u q).length) (q' : Nat) (h1 : q ≤ q') (h2 : q' < n) : stZ x y z u q' < 0 := by
  rcases Int.lt_or_le (stZ x y z u q') 0 with h | h
  · exact h
  · have a1 := wl_mono x y z u q q' h1
    have a2 := wl_step h
    have a3 := wl_mono x y z u (q' + 1) n (by omega)
    omega
/-- The next way from a cell. -/
theorem ways_next {x y z u : Int} {i q : Nat} {d : Int} (hi : (wlN x y z u q).length = i) : ∀ n, q ≤ n → (wlN x y z u n)[i]? = some d →
    ∃ d' : Nat, d = (d' : Int) ∧ q ≤ d' ∧ d' < n ∧ 0 ≤ stZ x y z u d' ∧ (∀ q', q ≤ q' → q' < d' → stZ x y z u q' < 0) ∧ (wlN x y z u (d' + 1)).length = i + 1 := by
  intro n hn
  induction n with
  | zero => obtain rfl : q = 0 := by omega
            intro h; simp [wlN] at h
  | succ n ih =>
    intro h
    rcases Nat.lt_or_ge n q with h0 | h0
    · obtain rfl : q = n + 1 := by omega
      rw [List.getElem?_eq_none (by omega)] at h; cases h
    · by_cases hs : 0 ≤ stZ x y z u n
      · have hm := wl_mono x y z u q n h0
        rcases Nat.lt_or_ge i (wlN x y z u n).length with h1 | h1
        · rw [wlN, if_pos hs, List.getElem?_append_left h1] at h
          obtain ⟨d', e, a, b, c⟩ := ih h0 h
          exact ⟨d', e, a, by omega, c⟩
        · rw [wlN, if_pos hs, List.getElem?_append_right h1] at h
          have e0 : i - (wlN x y z u n).length = 0 := by omega
          rw [e0] at h
          exact ⟨n, by simpa using h.symm, h0, by omega, hs, fun q' a b => wl_none (by omega) q' a b, by rw [wl_step hs]; omega⟩
      · rw [wlN, if_neg hs] at h
        obtain ⟨d', e, a, b, c⟩ := ih h0 h
        exact ⟨d', e, a, by omega, c⟩
theorem inv_skip {st : Nat → Nat → Int} {N a : Nat} {D : List Int} {L : List Nat} {k q u : Nat} (h : Inv st N a D L k q) (hu : L[k]? = some u) : ∀ n, q ≤ n → (∀ q', q ≤ q' → q' < n → st u q' < 0) → Inv st N a D L k n := by
  intro n hn
  induction n with
  | zero => obtain rfl : q = 0 := by omega
            exact fun _ => h
  | succ n ih =>
    intro hs
    rcases Nat.lt_or_ge n q with h0 | h0
    · obtain rfl : q = n + 1 := by omega
      exact h
    · exact inv_none (ih h0 fun q' a b => hs q' a (by omega)) hu (hs n h0 (by omega))

/-- A channel of one goroutine: the integers that it holds, whether it is closed. -/
def CH (C N : Nat) (l : List Int) (cl : Bool) (X : World) : Prop := ∃ s r, X.heap[C]? = some (.chan N (icells l).toArray cl s r false)
/-- Two worlds are the same but for one block. -/
def But (C : Nat) (X X' : World) : Prop := X'.heap.size = X.heap.size ∧ ∀ g, g ≠ C → X'.heap[g]? = X.heap[g]?
theorem but_cell {C : Nat} {X X' : World} (h : But C X X') {p : Addr} (hp : p.block ≠ C) : X'.cell? p = X.cell? p := by
  unfold World.cell?; rw [h.2 _ hp]
theorem but_mbox {C b : Nat} {x y z : Int} {X X' : World} (h : But C X X') (hne : b ≠ C) (hx : MBox b x y z X) : MBox b x y z X' :=
  ⟨⟨(but_cell h hne).trans hx.1.1, (but_cell h hne).trans hx.1.2.1, (but_cell h hne).trans hx.1.2.2⟩, by rw [h.1]; exact hx.2⟩
theorem but_own {C base : Nat} {e : TypeId} {size n : Nat} {v : Value} {xs : List Value} {X X' : World} (h : But C X X') (hne : v.ownBlock ≠ some C) (ho : X.ownsRow base e size v n xs) : X'.ownsRow base e size v n xs := by
  refine ⟨ho.1, ?_⟩
  rcases ho.2 with h2 | ⟨g, cap, cur, rfl, hg, hh, r⟩
  · exact .inl h2
  · exact .inr ⟨g, cap, cur, rfl, hg, (h.2 g fun e => hne (by rw [e]; rfl)).trans hh, r⟩
theorem but_ds {W X X' : World} {b Q N C : Nat} {x y z : Int} {D : List Int} (h : But C X X') (hB : Below W.heap.size X X' ) (h1 : b ≠ C) (h2 : Q ≠ C) (hd : DS W b x y z Q N D X) : DS W b x y z Q N D X' :=
  ⟨hd.1.trans hB, but_mbox h h1 hd.2.1, but_own h (by show some Q ≠ some C; simpa using h2) hd.2.2⟩
theorem but_chan (X : World) (C : Nat) (cap : Nat) (buf : Array Value) (cl : Bool) (s r : Nat) (tm : Bool) : But C X (X.setChan C cap buf cl s r tm) :=
  ⟨by simp [World.setChan], fun g hg => by simp only [World.setChan]; rw [Array.getElem?_setIfInBounds_ne (fun e => hg e.symm)]⟩
theorem below_chan {B C : Nat} (X : World) (hC : B ≤ C) (cap : Nat) (buf : Array Value) (cl : Bool) (s r : Nat) (tm : Bool) : Below B X (X.setChan C cap buf cl s r tm) :=
  below_setChan (Below.refl B X) hC cap buf cl s r tm
theorem CH.lt {C N : Nat} {l : List Int} {cl : Bool} {X : World} (h : CH C N l cl X) : C < X.heap.size := by
  obtain ⟨s, r, h⟩ := h
  exact (Array.getElem?_eq_some_iff.1 h).1
theorem CH.call {C N : Nat} {l : List Int} {cl : Bool} {X X' : World} (h : CH C N l cl X) (hb : Below X.heap.size X X') : CH C N l cl X' := by
  have := h.lt
  obtain ⟨s, r, h⟩ := h
  exact ⟨s, r, (hb.block C this).trans h⟩
theorem CH.store {C N : Nat} {l : List Int} {cl : Bool} {X : World} (h : CH C N l cl X) {p : Addr} (hp : p.block ≠ C) (u : Value) : CH C N l cl (X.setCell p u) := by
  obtain ⟨s, r, h⟩ := h
  exact ⟨s, r, (Below.heap_setCell X p u C (fun e => hp e.symm)).trans h⟩
/-- What is at the channel's block after a communication. -/
theorem ch_push {C N : Nat} {l : List Int} {cl : Bool} {X : World} (h : C < X.heap.size) (v : Int) (s r : Nat) : CH C N (l ++ [v]) cl (X.setChan C N ((icells l).toArray.push (.int .i64 v)) cl s r false) :=
  ⟨s, r, by rw [heap_setChan _ _ _ _ _ _ _ _ h]; simp [icells]⟩
theorem ch_pop {C N : Nat} {v : Int} {l : List Int} {cl : Bool} {X : World} (h : C < X.heap.size) (s r : Nat) : CH C N l cl (X.setChan C N ((icells (v :: l)).toArray.extract 1 (icells (v :: l)).toArray.size) cl s r false) :=
  ⟨s, r, by rw [heap_setChan _ _ _ _ _ _ _ _ h]; simp [icells]; exact List.take_of_length_le (by simp)⟩

/-- What stands while the search is under way: the distances, and the cells that wait. -/
def SS (W : World) (b : Nat) (x y z : Int) (Q C N : Nat) (D : List Int) (l : List Int) (cl : Bool) (X : World) : Prop := DS W b x y z Q N D X ∧ CH C N l cl X
theorem SS.call {W X X' : World} {b Q C N : Nat} {x y z : Int} {D l : List Int} {cl : Bool} (h : SS W b x y z Q C N D l cl X) (hb : Below X.heap.size X X') : SS W b x y z Q C N D l cl X' := ⟨h.1.call hb, h.2.call hb⟩
theorem ss_after {W X X' : World} {b Q C N : Nat} {x y z : Int} {D l : List Int} {cl : Bool} (hb : Below X.heap.size X X') (h : SS W b x y z Q C N D l cl X) : SS W b x y z Q C N D l cl X' := h.call hb
theorem SS.put {W X : World} {b Q C N : Nat} {x y z : Int} {D l : List Int} {cl : Bool} (h : SS W b x y z Q C N D l cl X) (hbQ : b < Q) (hQC : Q < C) (hW : W.heap.size ≤ b) (j : Nat) (u : Int) : SS W b x y z Q C N (D.set j u) l cl (X.setCell ⟨Q, j, none⟩ (.int .i64 u)) :=
  ⟨h.1.put hbQ hW j u, h.2.store (by simp; omega) _⟩
theorem SS.push {W X : World} {b Q C N : Nat} {x y z : Int} {D l : List Int} {cl : Bool} (h : SS W b x y z Q C N D l cl X) (hbQ : b < Q) (hQC : Q < C) (hW : W.heap.size ≤ b) (v : Int) (s r : Nat) : SS W b x y z Q C N D (l ++ [v]) cl (X.setChan C N ((icells l).toArray.push (.int .i64 v)) cl s r false) :=
  ⟨but_ds (but_chan _ _ _ _ _ _ _ _) (below_chan X (by omega) _ _ _ _ _ _) (by omega) (by omega) h.1, ch_push h.2.lt v s r⟩
theorem SS.pop {W X : World} {b Q C N : Nat} {x y z v : Int} {D l : List Int} {cl : Bool} (h : SS W b x y z Q C N D (v :: l) cl X) (hbQ : b < Q) (hQC : Q < C) (hW : W.heap.size ≤ b) (s r : Nat) : SS W b x y z Q C N D l cl (X.setChan C N ((icells (v :: l)).toArray.extract 1 (icells (v :: l)).toArray.size) cl s r false) :=
  ⟨but_ds (but_chan _ _ _ _ _ _ _ _) (below_chan X (by omega) _ _ _ _ _ _) (by omega) (by omega) h.1, ch_pop h.2.lt s r⟩
/-- The channel is closed. -/
theorem SS.close {W X : World} {b Q C N : Nat} {x y z : Int} {D l : List Int} {cl : Bool} (h : SS W b x y z Q C N D l cl X) (hbQ : b < Q) (hQC : Q < C) (hW : W.heap.size ≤ b) (s r : Nat) : SS W b x y z Q C N D l true (X.setChan C N (icells l).toArray true s r false) :=
  ⟨but_ds (but_chan _ _ _ _ _ _ _ _) (below_chan X (by omega) _ _ _ _ _ _) (by omega) (by omega) h.1, ⟨s, r, heap_setChan _ _ _ _ _ _ _ _ h.2.lt⟩⟩
/-- The channel is made. -/
theorem ss_make {W X : World} {b Q N : Nat} {x y z : Int} {D : List Int} (h : DS W b x y z Q N D X) : SS W b x y z Q X.heap.size N D [] false (X.alloc (.chan N #[] false 0 0 false)) :=
  ⟨h.call (below_box _ _), ⟨0, 0, heap_alloc_new _ _⟩⟩
theorem len_chan {P : Program} {w : World} {c cap s r : Nat} {buf : Array Value} {closed : Bool} {dir : ChanDir} {e : TypeId} (t ty : TypeId) (ht : P.underlying t = some (.chan dir e)) (hc : w.heap[c]? = some (.chan cap buf closed s r false)) :
    (Builtin.len_ #[t] ty #[.chan (some c)]).run P w = .ok (goInt buf.size) w := by
  simp [Builtin.len_, run_underlying ht, run_getObj_chan _ _ hc]
theorem zs_drop {L : List Nat} {k u : Nat} (h : L[k]? = some u) : (zs L).drop k = (u : Int) :: (zs L).drop (k + 1) := by
  have hk : k < L.length := (List.getElem?_eq_some_iff.1 h).1
  rw [List.drop_eq_getElem_cons (by rw [zs_len]; exact hk)]
  have : L[k] = u := by rw [List.getElem?_eq_getElem hk] at h; simpa using h
  simp [zs, this]
theorem zs_drop_snoc {L : List Nat} {k : Nat} (h : k ≤ L.length) (v : Nat) : (zs (L ++ [v])).drop k = (zs L).drop k ++ [(v : Int)] := by
  rw [zs_snoc, List.drop_append_of_le_length (by rw [zs_len]; exact h)]
/-- At the head of the search's loop over the channel. -/
def HS (W : World) (b : Nat) (x y z : Int) (Q C N a n : Nat) (X : World) : Prop :=
  ∃ (D : List Int) (L : List Nat) (k : Nat), n + k = N + 1 ∧ k ≤ L.length ∧ SS W b x y z Q C N D ((zs L).drop k) (decide (L.length ≤ k)) X ∧ Inv (stN x y z) N a D L k 0
/-- At the head of its loop over the ways from a cell. -/
def TS (W : World) (b : Nat) (x y z : Int) (Q C N a k u : Nat) (v : Value) (nw n : Nat) (u51 : Value) (X : World) : Prop :=
  ∃ (D : List Int) (L : List Nat) (q i : Nat), n + i = nw ∧ q ≤ 4 ∧ u51 = .int .i64 i ∧ (wlN x y z u q).length = i ∧ L[k]? = some u ∧ SS W b x y z Q C N D ((zs L).drop (k + 1)) false X ∧ X.ownsRow (C + 1) 3 1 v nw (icells (wlZ x y z u)) ∧ Inv (stN x y z) N a D L k q
theorem hs_start {W X : World} {b : Nat} {x y z : Int} {Q C N a : Nat} (h : SS W b x y z Q C N ((List.replicate N (-1)).set a 0) ([] ++ [(a : Int)]) false X) (ha : a < N) : HS W b x y z Q C N a (N + 1) X :=
  ⟨_, [a], 0, by omega, by simp, by simpa [zs] using h, inv_start ha⟩
theorem ways_end {x y z : Int} {u q : Nat} (h : (wlZ x y z u).length ≤ (wlN x y z u q).length) (q' : Nat) (h1 : q ≤ q') (h2 : q' < 4) : stN x y z u q' < 0 := wl_none (n := 4) h q' h1 h2
theorem own_chan {C n : Nat} {e : TypeId} {v : Value} {xs : List Value} {X : World} (h : X.ownsRow (C + 1) e 1 v n xs) (cap : Nat) (buf : Array Value) (cl : Bool) (s r : Nat) (tm : Bool) : (X.setChan C cap buf cl s r tm).ownsRow (C + 1) e 1 v n xs :=
  but_own (but_chan _ _ _ _ _ _ _ _) (fun e => by have := (h.lt C e).1; omega) h
theorem hs_next {W X : World} {b : Nat} {x y z : Int} {Q C N a n k : Nat} {D : List Int} {L : List Nat} {cl : Bool} (hn : n + k = N + 1) (hk : k < L.length) (hc : cl = decide (L.length ≤ k + 1)) (h : SS W b x y z Q C N D ((zs L).drop (k + 1)) cl X) (hi : Inv (stN x y z) N a D L (k + 1) 0) : ∃ m, m < n ∧ HS W b x y z Q C N a m X :=
  ⟨n - 1, by have := hi.le; omega, D, L, k + 1, by have := hi.le; omega, by omega, by rw [← hc]; exact h, hi⟩
theorem wl_cell {X : World} {base g c nw i : Nat} {l : List Int} {d : Int} (h : X.ownsRow base 3 1 (.slice (some ⟨g, 0, none⟩) nw c) nw (icells l)) (hn : l.length = nw) (hd : l[i]? = some d) : X.cell? ⟨g, i, none⟩ = some (.int .i64 d) := by
  have hi : i < l.length := (List.getElem?_eq_some_iff.1 hd).1
  rw [h.cellAt i (by omega), icells_at _ i hi]
  rw [List.getElem?_eq_getElem hi] at hd
  rw [Option.some.inj hd]
theorem at_left {L : List Nat} {j u v : Nat} (h : L[j]? = some u) : (L ++ [v])[j]? = some u := by
  rw [List.getElem?_append_left (List.getElem?_eq_some_iff.1 h).1]; exact h
end Go.Proofs.Ytomjfcmaoeoigaa.reachQ
