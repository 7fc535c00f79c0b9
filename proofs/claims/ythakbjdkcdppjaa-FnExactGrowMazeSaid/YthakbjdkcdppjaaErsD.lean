/- What the program keeps while it erases loops: the numbers' places in a map, the list over its own copy; the size of a set. -/
import Derived.Test.YthakbjdkcdppjaaErsO
import Derived.Test.YthakbjdkcdppjaaSetI
import Derived.Maps.OwnSet
import Derived.Maps.OwnOps
import Derived.ArgAppend
import Derived.Laws.CopyOwn
namespace Go.Proofs.Ythakbjdkcdppjaa.ersD
open Go.ChangeShapes Go.WideShapes Go.ChangeAt Go.RowKit Go.Maps
open draw gridP gridC intsP reachD intA listK setI wayP ersP ersO
set_option linter.unusedVariables false

/-! ### a map of places -/
theorem key_ne {u v : Int} (h : u ≠ v) : (Lit.int .i64 u) ≠ .int .i64 v := fun e => h (by injection e)
/-- The map tells the places of the numbers of o. -/
def Mp (D : DataW Unit) (o : List Int) : Prop := IsMap D ∧ ∀ u : Int, Maps.has D (.int .i64 u) = decide (u ∈ o) ∧ (u ∈ o → D.atKey (.int .i64 u) (.lit (.int .i64 0)) = .lit (.int .i64 (ixN o u)))
theorem mp_new : Mp (.map []) [] := ⟨isMap_empty, fun u => ⟨by simp [Maps.has], fun h => absurd h (by simp)⟩⟩
theorem mp_put {D : DataW Unit} {o : List Int} {u : Int} (h : Mp D o) (hu : u ∉ o) : Mp (D.put (.int .i64 u) (.lit (.int .i64 (o.length : Int)))) (o ++ [u]) := by
  obtain ⟨h1, h2⟩ := h
  refine ⟨h1.put _ _, fun v => ?_⟩
  by_cases e : v = u
  · subst e
    refine ⟨?_, fun _ => ?_⟩
    · rw [has_put_same h1 (show WideAt.IsKeyLit (.int .i64 v) from trivial)]; simp
    · rw [atKey_put_same h1 (show WideAt.IsKeyLit (.int .i64 v) from trivial), ix_new hu]
  · refine ⟨?_, fun hm => ?_⟩
    · rw [has_put_other (key_ne e), (h2 v).1]; simp [e]
    · have hm' : v ∈ o := by simpa [e] using hm
      rw [atKey_put_other (key_ne e), (h2 v).2 hm', ix_app _ hm']
/-- Numbers are taken out. -/
def delL (D : DataW Unit) (t : List Int) : DataW Unit := t.foldl (fun D u => D.del (.int .i64 u)) D
theorem del_snoc (D : DataW Unit) (t : List Int) (u : Int) : delL D (t ++ [u]) = (delL D t).del (.int .i64 u) := by
  unfold delL; rw [List.foldl_append]; rfl
theorem del_is : ∀ (t : List Int) (D : DataW Unit), IsMap D → IsMap (delL D t) ∧ ∀ v : Int, Maps.has (delL D t) (.int .i64 v) = (Maps.has D (.int .i64 v) && !decide (v ∈ t)) ∧ (v ∉ t → ∀ d, (delL D t).atKey (.int .i64 v) d = D.atKey (.int .i64 v) d)
  | [], D, hD => ⟨hD, fun v => ⟨by simp [delL], fun _ d => rfl⟩⟩
  | u :: t, D, hD => by
    obtain ⟨h1, h2⟩ := del_is t (D.del (.int .i64 u)) (hD.del _)
    refine ⟨h1, fun v => ⟨((h2 v).1).trans ?_, fun hv d => ?_⟩⟩
    · by_cases e : v = u
      · subst e; rw [has_del_same]; simp
      · rw [has_del_other (key_ne e)]; simp [e]
    · have e : v ≠ u := fun e => hv (by simp [e])
      exact ((h2 v).2 (fun h => hv (by simp [h])) d).trans (atKey_del_other (key_ne e) d)
theorem mp_cut {D : DataW Unit} {o : List Int} {k : Nat} (h : Mp D o) (hd : o.Nodup) : Mp (delL D (o.drop k)) (o.take k) := by
  obtain ⟨h1, h2⟩ := h
  obtain ⟨g1, g2⟩ := del_is (o.drop k) D h1
  have hdis : ∀ v, v ∈ o.take k → v ∉ o.drop k := by
    have := hd
    rw [← List.take_append_drop k o, List.nodup_append] at this
    exact fun v hv hv' => this.2.2 v hv v hv' rfl
  refine ⟨g1, fun v => ⟨?_, fun hv => ?_⟩⟩
  · rw [(g2 v).1, (h2 v).1]
    have e : v ∈ o ↔ v ∈ o.take k ∨ v ∈ o.drop k := by
      conv => lhs; rw [← List.take_append_drop k o]
      exact List.mem_append
    by_cases hv : v ∈ o.take k
    · have := hdis v hv
      simp [hv, this, e]
    · simp [hv, e]
  · rw [(g2 v).2 (hdis v hv), (h2 v).2 (List.mem_of_mem_take hv), ix_take hv]

/-! ### the size of a set -/
theorem sd_facts {l : List Int} : ∀ k, k ≤ l.length → Tidy (Sd (l.take k)) ∧ (∀ u : Int, Maps.has (Sd (l.take k)) (.int .i64 u) = decide (u ∈ l.take k)) ∧ Maps.size (Sd (l.take k)) ≤ k ∧ (Maps.size (Sd (l.take k)) = k ↔ (l.take k).Nodup)
  | 0, _ => ⟨tidy_empty, fun u => by simp [Sd, Maps.has], Nat.le_refl _, by simp [Sd, Maps.size]⟩
  | k + 1, h => by
    obtain ⟨h1, h2, h3, h4⟩ := sd_facts (l := l) k (by omega)
    have hu : l[k]? = some l[k] := List.getElem?_eq_getElem (by omega)
    generalize l[k] = u at hu
    have hs := size_put h1 (k := .int .i64 u) (.lit (.bool true))
    rw [h2 u] at hs
    have ht := sm_take hu
    rw [take_one hu] at ht ⊢
    rw [sd_snoc]
    refine ⟨h1.put (show WideAt.IsKeyLit (.int .i64 u) from trivial) _, fun v => ?_, ?_, ?_⟩
    · by_cases e : v = u
      · subst e; rw [has_put_same h1.isMap (show WideAt.IsKeyLit (.int .i64 v) from trivial)]; simp
      · rw [has_put_other (key_ne e), h2 v]; simp [e]
    · rw [hs]; split <;> omega
    · rw [ht, ← h4, hs]
      by_cases hm : u ∈ l.take k
      · simp [hm]; omega
      · simp [hm]
theorem sd_size (l : List Int) : ((Maps.size (Sd l) : Int) == (l.length : Int)) = smB l := by
  have := (sd_facts (l := l) l.length (Nat.le_refl _)).2.2.2
  rw [List.take_of_length_le (Nat.le_refl _)] at this
  unfold smB
  by_cases h : l.Nodup
  · rw [decide_eq_true h]; simp [this.2 h]
  · rw [decide_eq_false h]
    have : ¬ Maps.size (Sd l) = l.length := fun e => h (this.1 e)
    simp; omega

/-! ### the list over its own copy: o, what is left over, what is still to come -/
theorem row_at {o gap l : List Int} {k : Nat} {u : Int} (hk : o.length + gap.length = k) (hu : l[k]? = some u) : (o ++ gap ++ l.drop k)[k]? = some u := by
  rw [List.getElem?_append_right (by rw [List.length_append]; omega), List.length_append, hk, Nat.sub_self, List.getElem?_drop]
  simpa using hu
theorem row_low {o t : List Int} {i : Nat} {d : Int} (h : o[i]? = some d) : (o ++ t)[i]? = some d := by
  rw [List.getElem?_append_left (List.getElem?_eq_some_iff.1 h).1]; exact h
theorem drop_one {l : List Int} {k : Nat} {u : Int} (hu : l[k]? = some u) : l.drop k = u :: l.drop (k + 1) := by
  obtain ⟨hk, e⟩ := List.getElem?_eq_some_iff.1 hu
  rw [List.drop_eq_getElem_cons hk, e]
theorem row_new {o gap l : List Int} {k : Nat} {u : Int} (hk : o.length + gap.length = k) (hu : l[k]? = some u) : ∃ gap', (o ++ gap ++ l.drop k).set o.length u = (o ++ [u]) ++ gap' ++ l.drop (k + 1) ∧ (o ++ [u]).length + gap'.length = k + 1 := by
  rw [drop_one hu]
  cases gap with
  | nil => exact ⟨[], by simp, by simp at hk ⊢; omega⟩
  | cons a t => exact ⟨t ++ [u], by simp, by simp at hk ⊢; omega⟩
theorem row_cut {o gap l : List Int} {k m : Nat} {u : Int} (hk : o.length + gap.length = k) (hu : l[k]? = some u) (hm : m ≤ o.length) : ∃ gap', o ++ gap ++ l.drop k = o.take m ++ gap' ++ l.drop (k + 1) ∧ (o.take m).length + gap'.length = k + 1 := by
  refine ⟨o.drop m ++ gap ++ [u], ?_, ?_⟩
  · rw [drop_one hu]
    simp only [List.append_assoc, List.cons_append, List.nil_append]
    rw [← List.append_assoc (o.take m), List.take_append_drop]
  · simp; omega

/-- What stands while loops are erased: the copy (r its cells), the map. -/
def EV (W : World) (M n : Nat) (r : List Int) (k : Nat) (D : DataW Unit) (X : World) : Prop :=
  Below W.heap.size W X ∧ X.ownsRow W.heap.size 3 1 (.slice (some ⟨W.heap.size, 0, none⟩) n n) n (icells r) ∧ X.ownsMap Try.prog 3 (plainElem Try.prog 3) M k D
theorem EV.more {W X : World} {M n k k' : Nat} {r : List Int} {D : DataW Unit} (h : EV W M n r k D X) (hk : k ≤ k') : EV W M n r k' D X := by
  obtain ⟨h1, h2, es, clock, hb, F, hs, hD⟩ := h
  exact ⟨h1, h2, es, clock, hb, F, Nat.le_trans hs hk, hD⟩
theorem EV.turn {W X X' : World} {M n k k' : Nat} {r : List Int} {D D' : DataW Unit} (h : EV W M n r k D X) (hM : W.heap.size < M) (hg : X.grownBy X' (some M)) (ho : X'.ownsMap Try.prog 3 (plainElem Try.prog 3) M k' D') : EV W M n r k' D' X' :=
  ⟨h.1.grown hg h.1.size (fun j hj => by cases hj; exact Nat.le_of_lt hM), h.2.1.kept hg (.inr (by show some W.heap.size ≠ some M; intro e; have := Option.some.inj e; omega)), ho⟩
theorem EV.put {W X : World} {M n k m : Nat} {r : List Int} {D : DataW Unit} {u : Int} (h : EV W M n r k D X) (hM : W.heap.size < M) (ob : Obj) : EV W M n (r.set m u) k D ((X.alloc ob).setCell ⟨W.heap.size, m, none⟩ (.int .i64 u)) := by
  obtain ⟨h1, h2, h3⟩ := h
  refine ⟨(h1.alloc h1.size ob).setCell (Nat.le_refl _) _, ?_, (h3.alloc ob).setCell (by show M ≠ W.heap.size; omega) _⟩
  have := ((h2.alloc ob).stored m (.int .i64 u)).1
  have e : icells (r.set m u) = (icells r).set m (.int .i64 u) := by unfold icells; rw [List.map_set]
  rw [e]; exact this

theorem row_of {X : World} {b n : Nat} {e : TypeId} {xs : List Value} (h : X.heap[b]? = some (.cells xs.toArray e (0, 0))) (hn : xs.length = n) (hm : n ≤ maxLen) : X.ownsRow b e 1 (.slice (some ⟨b, 0, none⟩) n n) n xs :=
  ⟨by omega, .inr ⟨b, n, xs.toArray, rfl, Nat.le_refl _, h, Nat.le_refl _, hm, by simp; omega, by rw [List.toList_toArray, List.take_of_length_le (by omega)]⟩⟩
theorem ev_cell {W X : World} {M n k m : Nat} {r : List Int} {D : DataW Unit} (h : EV W M n r k D X) (hm : m < n) (ob : Obj) : ((X.alloc ob).cell? ⟨W.heap.size, m, none⟩).isSome = true ∧ (X.alloc ob).frozen? ⟨W.heap.size, m, none⟩ = false := by
  have h2 := h.2.1.alloc ob
  refine ⟨?_, h2.frozenAt m⟩
  have hl := h2.1
  rw [h2.cellAt m (by omega), List.getElem?_eq_getElem (by omega)]
  rfl
/-- At the head of a round. -/
def EL (W : World) (M n : Nat) (l : List Int) (u4 u23 : Value) (X : World) : Prop :=
  ∃ (k : Nat) (gap : List Int) (D : DataW Unit), k ≤ n ∧ u23 = .int .i64 k ∧ u4 = .slice (some ⟨W.heap.size, 0, none⟩) (erL (l.take k)).length n ∧ (erL (l.take k)).length + gap.length = k ∧ Mp D (erL (l.take k)) ∧ EV W M n (erL (l.take k) ++ gap ++ l.drop k) k D X
theorem el_start {W w2 : World} {n : Nat} {l : List Int} (hB : Below W.heap.size W w2) (hG : w2.heap[W.heap.size]? = some (.cells (icells l).toArray 3 (0, 0))) (hn : l.length = n) (hm : n ≤ maxLen) : EL W w2.heap.size n l (.slice (some ⟨W.heap.size, 0, none⟩) 0 n) (.int .i64 0) (w2.alloc (.map #[] 0)) := by
  refine ⟨0, [], .map [], Nat.zero_le _, rfl, rfl, rfl, mp_new, hB.alloc hB.size _, ?_, World.ownsMap_made _ _ _ _⟩
  exact (row_of hG (by rw [icells_length, hn]) hm).alloc _
/-- The next number is new. -/
theorem el_new {W X : World} {M n k : Nat} {l o gap : List Int} {D : DataW Unit} {u : Int} {ob : Obj} (he : erL (l.take k) = o) (hM : W.heap.size < M) (hk : k < n) (hu : l[k]? = some u) (hg : o.length + gap.length = k) (hmp : Mp D o) (hm : u ∉ o) (hev : EV W M n (o ++ gap ++ l.drop k) (k + 1) (D.put (.int .i64 u) (.lit (.int .i64 (o.length : Int)))) X) :
    EL W M n l (.slice (some ⟨W.heap.size, 0, none⟩) (o.length + 1) n) (.int .i64 ((k : Int) + 1)) ((X.alloc ob).setCell ⟨W.heap.size, o.length, none⟩ (.int .i64 u)) := by
  obtain ⟨gap', e1, e2⟩ := row_new hg hu
  have h1 := hev.put (m := o.length) (u := u) hM ob
  rw [e1] at h1
  have hx : erL (l.take (k + 1)) = o ++ [u] := by rw [er_next hu, he, er_out hm]
  exact ⟨k + 1, gap', _, hk, by go_num, by rw [hx]; simp, by rw [hx]; exact e2, by rw [hx]; exact mp_put hmp hm, by rw [hx]; exact h1⟩
/-- The next number closes a loop. -/
theorem el_cut {W X : World} {M n k : Nat} {l o gap : List Int} {D : DataW Unit} {u : Int} (he : erL (l.take k) = o) (hk : k < n) (hu : l[k]? = some u) (hg : o.length + gap.length = k) (hmp : Mp D o) (hm : u ∈ o) (hd : o.Nodup) (hev : EV W M n (o ++ gap ++ l.drop k) k (delL D (o.drop (ixN o u + 1))) X) :
    EL W M n l (.slice (some ⟨W.heap.size, 0, none⟩) (ixN o u + 1) n) (.int .i64 ((k : Int) + 1)) X := by
  have hi := ix_lt hm
  obtain ⟨gap', e1, e2⟩ := row_cut (m := ixN o u + 1) hg hu (by omega)
  rw [e1] at hev
  have hx : erL (l.take (k + 1)) = o.take (ixN o u + 1) := by rw [er_next hu, he, er_in hm]
  have hl : (o.take (ixN o u + 1)).length = ixN o u + 1 := by rw [List.length_take]; omega
  exact ⟨k + 1, gap', _, hk, by go_num, by rw [hx, hl], by rw [hx]; exact e2, by rw [hx]; exact mp_cut hmp hd, by rw [hx]; exact hev.more (Nat.le_succ _)⟩
/-- At the end. -/
theorem el_end {W X : World} {M n : Nat} {l gap : List Int} {D : DataW Unit} (hev : EV W M n (erL l ++ gap ++ l.drop n) n D X) : X.ownsRow W.heap.size 3 1 (.slice (some ⟨W.heap.size, 0, none⟩) (erL l).length n) (erL l).length (icells (erL l)) := by
  have hl := hev.2.1.1
  rw [icells_length] at hl
  have h := own_cut hev.2.1 (m := (erL l).length) (by rw [List.length_append, List.length_append] at hl; omega)
  have e : (icells (erL l ++ gap ++ l.drop n)).take (erL l).length = icells (erL l) := by
    unfold icells
    rw [← List.map_take, List.append_assoc, List.take_left]
  rw [e] at h
  exact h
/-- One more is taken out. -/
theorem ev_del {W X X' : World} {M n k j : Nat} {r t : List Int} {D : DataW Unit} {v : Int} (hv : t[j]? = some v) (hM : W.heap.size < M) (h : EV W M n r k (delL D (t.take j)) X) (ho : X'.ownsMap Try.prog 3 (plainElem Try.prog 3) M k ((delL D (t.take j)).del (.int .i64 v))) (ht : X.mapTurned X' M) : EV W M n r k (delL D (t.take (j + 1))) X' := by
  rw [take_one hv, del_snoc]
  exact h.turn hM ht.grown ho

/-! ### laws at an operation -/
section
variable {H : Type} {P : Program} (w : World) {ops : Array Oper} {rest : List Oper} {o : Oper} {a : Act} {Q : Exit → Act → World → Prop}
theorem lookup_at (hg : o.guard = none) (m x : Operand) (t : TypeId) (hop : o.op = Op.lookup t m x true)
    (k e : TypeId) (q : IntKind) (K : Keyed P k) (ht : P.underlying t = some (.map k e)) (he : P.underlying e = some (.int q)) (hz : (zeroValue e).run P w = .ok (.int q 0) w) (b n : Nat) (D : DataW H)
    (hm : a.eval m = .map (some b)) (hown : w.ownsMap P k (plainElem P e) b n D) (key : Value) (kl : Lit) (hx : a.eval x = key) (hkey : keyOf P k key = some kl)
    (c0 : Int) (b0 : Bool) (hc : D.atKey kl (.lit (.int q 0)) = .lit (.int q c0)) (hb : Maps.has D kl = b0)
    (hK : wpList P ops Q rest (a.put o.dst (.tuple #[.int q c0, .bool b0])) w) : wpList P ops Q (o :: rest) a w :=
  wpList_lookup_own_ok_int w hg m x t hop k e q K ht he hz b n D hm hown key kl hx hkey fun c hat _ => by
    rw [hc] at hat
    injection hat with hat
    injection hat with _ hat
    subst hat
    rw [hb]; exact hK
theorem len_at (hg : o.guard = none) (m : Operand) (t : TypeId) (hop : o.op = Op.call { callee := Callee.builtin Builtin.len, args := #[m], argTypes := #[t] })
    (k e : TypeId) (ht : P.underlying t = some (.map k e)) (R : Value → Option (DataW H × List MemPlace)) (b n : Nat) (D : DataW H) (hm : a.eval m = .map (some b)) (hown : w.ownsMap P k R b n D) (s : Nat) (hs : Maps.size D = s)
    (hK : wpList P ops Q rest (a.put o.dst (.int .i64 s)) w) : wpList P ops Q (o :: rest) a w := by
  subst hs
  exact wpList_len_own w hg m t hop k e ht R b n D hm hown hK
/-- An append of one where there is room. -/
theorem append_room (hg : o.guard = none) (s x : Operand) (t : TypeId) (hop : o.op = Op.call { callee := Callee.builtin Builtin.append, args := #[s, x], argTypes := #[t, t] })
    (e : TypeId) (i : TypeInfo) (h1 : P.underlying t = some (.slice e)) (h2 : P.info? e = some i) (h4 : i.size = 1)
    (b k cap : Nat) (hs : a.eval s = .slice (some ⟨b, 0, none⟩) k cap) (ad : Addr) (c : Nat) (u : Value) (hx : a.eval x = .slice (some ad) 1 c)
    (hc : ∀ j v, [u][j]? = some v → w.cell? (ad.add j) = some v) (h1c : u.oneCell' = true) (hroom : k + 1 ≤ cap) (hcell : (w.cell? ⟨b, k, none⟩).isSome = true) (hfz : w.frozen? ⟨b, k, none⟩ = false)
    (hK : wpList P ops Q rest (a.put o.dst (.slice (some ⟨b, 0, none⟩) (k + 1) cap)) (w.setCell ⟨b, k, none⟩ u)) : wpList P ops Q (o :: rest) a w := by
  refine wpList_plain hg fun K hK' => ?_
  have hrun := run_append_room_cells (P := P) w t o.type e i h1 h2 b 0 k cap ad 1 c [u] (by rw [h4]; rfl) hc (by simpa using h1c) hroom (fun j hj => by obtain rfl : j = 0 := (by simpa using hj); simpa [h4] using hcell) (fun j hj => by obtain rfl : j = 0 := (by simpa using hj); simpa [h4] using hfz)
  rw [h4, Nat.zero_add, Nat.mul_one] at hrun
  have e1 : w.setCells b k [u] = w.setCell ⟨b, k, none⟩ u := rfl
  rw [e1] at hrun
  unfold Oper.wp
  simp [execOp, hop, resolve, invoke, builtin, hs, hx, hrun, Result.andThen]
  exact hK' _ _ hK
end
end Go.Proofs.Ythakbjdkcdppjaa.ersD
