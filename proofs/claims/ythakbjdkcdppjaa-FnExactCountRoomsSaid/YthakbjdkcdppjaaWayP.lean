/- Ways, without the program: where a walk ends, its cells, the way back, its text, and the first of the shortest ways. -/
import Derived.Test.YthakbjdkcdppjaaForest
import Derived.Test.YthakbjdkcdppjaaMzB
namespace Go.Proofs.Ythakbjdkcdppjaa.wayP
open gridP gridQ bitP mazeP mazeQ reachP reachM reachN reachD
set_option linter.unusedVariables false

theorem nn2 {x y : Int} (hk : OkZ x y) : x * y = (cN x y : Int) ∧ 1 ≤ cN x y ∧ cN x y ≤ 16 := by
  obtain ⟨h1, h2, h3, h4⟩ := hk
  have := (mul_bd x y h1 h2 h3 h4).1
  unfold cN; omega

/-- Whether these are directions. -/
def wayB (l : List Int) : Bool := l.all fun d => decide (0 ≤ d ∧ d ≤ 3)
/-- Where a walk from a cell ends, -1 where it cannot go on. -/
def wkZ (x y z : Int) : List Int → Int → Int
  | [], c => c
  | d :: l, c => if stZ x y z c d < 0 then -1 else wkZ x y z l (stZ x y z c d)
/-- The cells of a walk. -/
def ceL (x y z : Int) : List Int → Int → List Int
  | [], c => [c]
  | d :: l, c => c :: ceL x y z l (stZ x y z c d)
def wwB (x y z c : Int) (l : List Int) : Bool := hasB x y z c && (decide (l.length ≤ 400) && decide (0 ≤ wkZ x y z l c))
def wwZ (x y z c : Int) (l : List Int) : Int := if wwB x y z c l = true then wkZ x y z l c else -1
def coL (x y z c : Int) (l : List Int) : List Int := if wwB x y z c l = true then ceL x y z l c else []
/-- The way back. -/
def rvL (l : List Int) : List Int := l.reverse.map fun d => (d + 2) % 4
def rwL (l : List Int) : List Int := if wayB l = true then rvL l else []

theorem wkZ_nil {x y z c : Int} : wkZ x y z [] c = c := rfl
theorem wkZ_stop {x y z c d : Int} {l : List Int} (h : stZ x y z c d < 0) : wkZ x y z (d :: l) c = -1 := by unfold wkZ; rw [if_pos h]
theorem wkZ_go {x y z c d : Int} {l : List Int} (h : ¬ stZ x y z c d < 0) : wkZ x y z (d :: l) c = wkZ x y z l (stZ x y z c d) := by rw [wkZ, if_neg h]
theorem wkZ_app {x y z : Int} (l' : List Int) : ∀ (l : List Int) (c : Int), 0 ≤ c → wkZ x y z (l ++ l') c = if wkZ x y z l c < 0 then -1 else wkZ x y z l' (wkZ x y z l c)
  | [], c, hc => by rw [if_neg (show ¬ wkZ x y z [] c < 0 by rw [wkZ_nil]; omega), wkZ_nil, List.nil_append]
  | d :: l, c, hc => by
    rw [List.cons_append]
    by_cases h : stZ x y z c d < 0
    · rw [wkZ_stop h, if_pos (show wkZ x y z (d :: l) c < 0 by rw [wkZ_stop h]; omega)]
    · rw [wkZ_go h, wkZ_go h]; exact wkZ_app l' l _ (by omega)
theorem wkZ_snoc {x y z : Int} {l : List Int} {c d : Int} (hc : 0 ≤ c) (h : 0 ≤ wkZ x y z l c) : wkZ x y z (l ++ [d]) c = stZ x y z (wkZ x y z l c) d := by
  rw [wkZ_app _ _ _ hc, if_neg (by omega)]
  have := st_ge x y z (wkZ x y z l c) d
  by_cases h : stZ x y z (wkZ x y z l c) d < 0
  · rw [wkZ_stop h]; omega
  · rw [wkZ_go h, wkZ_nil]
theorem wkZ_ge {x y z : Int} : ∀ (l : List Int) (c : Int), 0 ≤ c → -1 ≤ wkZ x y z l c
  | [], c, hc => by rw [wkZ_nil]; omega
  | d :: l, c, hc => by
    by_cases h : stZ x y z c d < 0
    · rw [wkZ_stop h]; omega
    · rw [wkZ_go h]; exact wkZ_ge l _ (by omega)
/-- A walk that goes on has begun. -/
theorem wkZ_begun {x y z c d : Int} {l : List Int} (h : 0 ≤ wkZ x y z (d :: l) c) : ¬ stZ x y z c d < 0 ∧ wkZ x y z (d :: l) c = wkZ x y z l (stZ x y z c d) := by
  by_cases h' : stZ x y z c d < 0
  · rw [wkZ_stop h'] at h; omega
  · exact ⟨h', wkZ_go h'⟩
/-- A walk that cannot go on after some steps cannot go on. -/
theorem wkZ_fail {x y z : Int} {l : List Int} {c : Int} {k : Nat} (hc : 0 ≤ c) (h : wkZ x y z (l.take k) c < 0) : wkZ x y z l c = -1 := by
  have := wkZ_app (x := x) (y := y) (z := z) (l.drop k) (l.take k) c hc
  rw [List.take_append_drop, if_pos h] at this
  exact this
theorem wkZ_pre {x y z : Int} {l : List Int} {c : Int} (k : Nat) (hc : 0 ≤ c) (h : 0 ≤ wkZ x y z l c) : 0 ≤ wkZ x y z (l.take k) c := by
  by_cases h' : wkZ x y z (l.take k) c < 0
  · have := wkZ_fail hc h'; omega
  · omega
theorem take_one {l : List Int} {k : Nat} {u : Int} (hu : l[k]? = some u) : l.take (k + 1) = l.take k ++ [u] := by rw [List.take_add_one, hu]; rfl
theorem wkZ_next {x y z : Int} {l : List Int} {c u : Int} {k : Nat} (hc : 0 ≤ c) (hu : l[k]? = some u) (h : 0 ≤ wkZ x y z (l.take k) c) : wkZ x y z (l.take (k + 1)) c = stZ x y z (wkZ x y z (l.take k) c) u := by
  rw [take_one hu, wkZ_snoc hc h]
theorem ceL_snoc {x y z : Int} {d : Int} : ∀ {l : List Int} {c : Int}, 0 ≤ c → 0 ≤ wkZ x y z l c → ceL x y z (l ++ [d]) c = ceL x y z l c ++ [stZ x y z (wkZ x y z l c) d]
  | [], c, hc, _ => rfl
  | g :: l, c, hc, h => by
    obtain ⟨hs, e⟩ := wkZ_begun h
    rw [e] at h ⊢
    simp only [List.cons_append, ceL]
    rw [ceL_snoc (by omega) h]
theorem ceL_next {x y z : Int} {l : List Int} {c u : Int} {k : Nat} (hc : 0 ≤ c) (hu : l[k]? = some u) (h : 0 ≤ wkZ x y z (l.take k) c) : ceL x y z (l.take (k + 1)) c = ceL x y z (l.take k) c ++ [wkZ x y z (l.take (k + 1)) c] := by
  rw [wkZ_next hc hu h, take_one hu, ceL_snoc hc h]
theorem ceL_len {x y z : Int} : ∀ (l : List Int) (c : Int), (ceL x y z l c).length = l.length + 1
  | [], c => rfl
  | d :: l, c => by simp only [ceL, List.length_cons]; rw [ceL_len l]
theorem ceL_head {x y z : Int} (l : List Int) (c : Int) : (ceL x y z l c)[0]? = some c := by cases l <;> rfl
theorem ceL_last {x y z : Int} : ∀ {l : List Int} {c : Int}, 0 ≤ c → 0 ≤ wkZ x y z l c → (ceL x y z l c)[l.length]? = some (wkZ x y z l c)
  | [], c, hc, _ => rfl
  | g :: l, c, hc, h => by
    obtain ⟨hs, e⟩ := wkZ_begun h
    rw [e] at h ⊢
    simp only [ceL, List.length_cons, List.getElem?_cons_succ]
    exact ceL_last (by omega) h
theorem st_dir {x y z c d : Int} (h : 0 ≤ stZ x y z c d) : 0 ≤ d ∧ d ≤ 3 := by
  unfold stZ at h
  split at h
  · exact (nb_some (show ¬ nbZ x y c d < 0 by omega)).2.2.1
  · omega
theorem wk_way {x y z : Int} : ∀ {l : List Int} {c : Int}, 0 ≤ c → 0 ≤ wkZ x y z l c → wayB l = true
  | [], c, _, _ => rfl
  | d :: l, c, hc, h => by
    obtain ⟨hs, e⟩ := wkZ_begun h
    rw [e] at h
    have h1 := wk_way (by omega) h
    have h2 := st_dir (show 0 ≤ stZ x y z c d by omega)
    unfold wayB at h1 ⊢
    rw [List.all_cons, h1, decide_eq_true h2]; rfl
/-- A way leads back. -/
theorem wk_back {x y z : Int} : ∀ {l : List Int} {c : Int}, 0 ≤ c → 0 ≤ wkZ x y z l c → wkZ x y z (rvL l) (wkZ x y z l c) = c
  | [], c, _, _ => rfl
  | d :: l, c, hc, h => by
    obtain ⟨hs, e0⟩ := wkZ_begun h
    rw [e0] at h ⊢
    have h0 : 0 ≤ stZ x y z c d := by omega
    have h1 := wk_back h0 h
    have e : rvL (d :: l) = rvL l ++ [(d + 2) % 4] := by simp [rvL]
    rw [e, wkZ_snoc h (by rw [h1]; exact h0), h1, step_back h0]
theorem way_mem {l : List Int} : wayB l = true ↔ ∀ d ∈ l, 0 ≤ d ∧ d ≤ 3 := by
  unfold wayB; rw [List.all_eq_true]
  exact ⟨fun h d hd => of_decide_eq_true (h d hd), fun h d hd => decide_eq_true (h d hd)⟩
theorem rv_way {l : List Int} (h : wayB l = true) : wayB (rvL l) = true := by
  rw [way_mem] at h ⊢
  intro d hd
  unfold rvL at hd
  obtain ⟨g, hg, rfl⟩ := List.mem_map.1 hd
  have := h g (by simpa using hg)
  omega
theorem rv_rv {l : List Int} (h : wayB l = true) : rvL (rvL l) = l := by
  rw [way_mem] at h
  unfold rvL
  rw [← List.map_reverse, List.reverse_reverse, List.map_map]
  conv => rhs; rw [← List.map_id l]
  refine List.map_congr_left fun d hd => ?_
  have := h d hd
  simp only [Function.comp, id]
  omega
theorem rw_rw {l : List Int} (h : wayB l = true) : rwL (rwL l) = l := by
  unfold rwL
  rw [if_pos h, if_pos (rv_way h), rv_rv h]
theorem rv_len (l : List Int) : (rvL l).length = l.length := by simp [rvL]
/-- While a way is turned round, from its end: what is below k is still to come. -/
theorem rv_step {l : List Int} {k : Nat} {u : Int} (hu : l[k]? = some u) : rvL (l.drop k) = rvL (l.drop (k + 1)) ++ [(u + 2) % 4] := by
  obtain ⟨hk, e⟩ := List.getElem?_eq_some_iff.1 hu
  rw [List.drop_eq_getElem_cons hk, e]
  simp [rvL]
theorem rv_none {l : List Int} : rvL (l.drop l.length) = [] := by simp [rvL]

/-- The letter of a direction. -/
def ltr (d : Int) : UInt8 := if d = 0 then 78 else if d = 1 then 69 else if d = 2 then 83 else 87
/-- The direction of a letter, -1 where it is none. -/
def unl (c : UInt8) : Int := if c = 78 then 0 else if c = 69 then 1 else if c = 83 then 2 else if c = 87 then 3 else -1
def txL (l : List Int) : List UInt8 := l.map ltr
def wtB (l : List Int) : ByteArray := if wayB l = true then ⟨(txL l).toArray⟩ else ⟨#[]⟩
def pwB (s : List UInt8) : Bool := s.all fun c => decide (0 ≤ unl c)
def pwL (s : List UInt8) : List Int := if pwB s = true then s.map unl else []
theorem unl_ltr {d : Int} (h : 0 ≤ d ∧ d ≤ 3) : unl (ltr d) = d := by
  have : d = 0 ∨ d = 1 ∨ d = 2 ∨ d = 3 := by omega
  rcases this with rfl | rfl | rfl | rfl <;> decide
theorem pw_tx {l : List Int} (h : wayB l = true) : pwB (txL l) = true ∧ pwL (txL l) = l := by
  rw [way_mem] at h
  have h1 : pwB (txL l) = true := by
    unfold pwB txL
    rw [List.all_eq_true]
    intro c hc
    obtain ⟨d, hd, rfl⟩ := List.mem_map.1 hc
    rw [unl_ltr (h d hd)]
    exact decide_eq_true (h d hd).1
  refine ⟨h1, ?_⟩
  unfold pwL; rw [if_pos h1]
  unfold txL
  rw [List.map_map]
  conv => rhs; rw [← List.map_id l]
  exact List.map_congr_left fun d hd => unl_ltr (h d hd)
theorem unl_ge (c : UInt8) : -1 ≤ unl c ∧ unl c ≤ 3 := by unfold unl; repeat' split <;> try omega

section
variable {st : Nat → Nat → Int} {N b : Nat}
/-- Whether a step leads nearer to b. -/
def nrB (st : Nat → Nat → Int) (N b a q : Nat) : Bool := decide (0 ≤ st a q) && dZ st N b (st a q).toNat == dZ st N b a - 1
/-- The first step that leads nearer. -/
def fqN (st : Nat → Nat → Int) (N b a : Nat) : Nat := if nrB st N b a 0 = true then 0 else if nrB st N b a 1 = true then 1 else if nrB st N b a 2 = true then 2 else 3
/-- The first of the shortest ways. -/
def wyN (st : Nat → Nat → Int) (N b : Nat) : Nat → Nat → List Int
  | 0, _ => []
  | f + 1, a => (fqN st N b a : Int) :: wyN st N b f (st a (fqN st N b a)).toNat
theorem wy_len : ∀ (f a : Nat), (wyN st N b f a).length = f
  | 0, _ => rfl
  | f + 1, a => by simp only [wyN, List.length_cons]; rw [wy_len f]
theorem near_some {a k : Nat} (hb : b < N) (hst : ∀ u q v : Nat, st u q = (v : Int) → v < N) (hbk : ∀ u q v : Nat, q < 4 → st u q = (v : Int) → ∃ q', q' < 4 ∧ st v q' = (u : Int)) (h : dZ st N b a = ((k + 1 : Nat) : Int)) : ∃ q, q < 4 ∧ nrB st N b a q = true := by
  rcases dZ_spec hb hst a with ⟨h1, h2⟩ | ⟨n, h1, _, h3, h4⟩
  · omega
  · obtain rfl : n = k + 1 := by omega
    cases h3 with
    | @step m u q v hw hq hs =>
      obtain ⟨q', hq', hs'⟩ := hbk u q a hq hs
      refine ⟨q', hq', ?_⟩
      unfold nrB
      rw [hs', decide_eq_true (Int.natCast_nonneg u), Int.toNat_natCast, h1, Bool.true_and, beq_iff_eq]
      rcases dZ_spec hb hst u with ⟨g1, g2⟩ | ⟨n', g1, _, g3, g4⟩
      · exact absurd hw (g2 _)
      · have e1 := g4 _ hw
        have e2 := h4 _ (Wk.step g3 hq hs)
        rw [g1]; omega
theorem fq_spec {a : Nat} (h : ∃ q, q < 4 ∧ nrB st N b a q = true) : fqN st N b a < 4 ∧ nrB st N b a (fqN st N b a) = true ∧ ∀ q, q < fqN st N b a → nrB st N b a q = false := by
  obtain ⟨q, hq, hn⟩ := h
  unfold fqN
  by_cases h0 : nrB st N b a 0 = true
  · rw [if_pos h0]; exact ⟨by omega, h0, fun q hq => by omega⟩
  · rw [if_neg h0]
    by_cases h1 : nrB st N b a 1 = true
    · rw [if_pos h1]; exact ⟨by omega, h1, fun q hq => by obtain rfl : q = 0 := by omega
                                                          simpa using h0⟩
    · rw [if_neg h1]
      by_cases h2 : nrB st N b a 2 = true
      · rw [if_pos h2]
        refine ⟨by omega, h2, fun q hq => ?_⟩
        have : q = 0 ∨ q = 1 := by omega
        rcases this with rfl | rfl
        · simpa using h0
        · simpa using h1
      · rw [if_neg h2]
        have h3 : nrB st N b a 3 = true := by
          have : q = 0 ∨ q = 1 ∨ q = 2 ∨ q = 3 := by omega
          rcases this with rfl | rfl | rfl | rfl
          · exact absurd hn h0
          · exact absurd hn h1
          · exact absurd hn h2
          · exact hn
        refine ⟨by omega, h3, fun q hq => ?_⟩
        have : q = 0 ∨ q = 1 ∨ q = 2 := by omega
        rcases this with rfl | rfl | rfl
        · simpa using h0
        · simpa using h1
        · simpa using h2
/-- A step that is the first that leads nearer. -/
theorem fq_is {a q : Nat} (hq : q < 4) (h : nrB st N b a q = true) (hl : ∀ q', q' < q → nrB st N b a q' = false) : fqN st N b a = q := by
  obtain ⟨h1, h2, h3⟩ := fq_spec ⟨q, hq, h⟩
  rcases Nat.lt_trichotomy (fqN st N b a) q with e | e | e
  · have := hl _ e; rw [h2] at this; cases this
  · exact e
  · have := h3 _ e; rw [h] at this; cases this
theorem nr_true {a q : Nat} : nrB st N b a q = true ↔ 0 ≤ st a q ∧ dZ st N b (st a q).toNat = dZ st N b a - 1 := by
  unfold nrB; rw [Bool.and_eq_true, decide_eq_true_iff, beq_iff_eq]
end

/-- Whether there is a way, and the first of the shortest. -/
def wbB (x y z a b : Int) : Bool := decide (0 ≤ dsZ x y z a b)
def wbL (x y z a b : Int) : List Int := if wbB x y z a b = true then wyN (stN x y z) (cN x y) b.toNat (dZ (stN x y z) (cN x y) b.toNat a.toNat).toNat a.toNat else []

section
variable {x y z : Int}
/-- What a distance is, in the words of the search. -/
theorem ds_form {a b : Int} (ha : hasB x y z a = true) (hb : hasB x y z b = true) : dsZ x y z a b = dZ (stN x y z) (cN x y) b.toNat a.toNat := by
  obtain ⟨hv, k, rfl, ha0, haN, hak, hN16, hNN⟩ := has_form ha
  obtain ⟨-, j, rfl, hb0, hbN, hbj, -, -⟩ := has_form hb
  unfold dsZ; rw [if_pos ⟨ha, hb⟩]
  exact dZ_sym (by omega) (by omega) (@stN_lt x y z) (fun u q v => @stN_back x y z u q v)
/-- The way walks to b. -/
theorem wy_walk {b : Nat} (hb : b < cN x y) : ∀ (f a : Nat), a < cN x y → dZ (stN x y z) (cN x y) b a = (f : Int) → wkZ x y z (wyN (stN x y z) (cN x y) b f a) a = b
  | 0, a, ha, h => by
    have := (dZ_self hb (@stN_lt x y z) a).1 h
    subst this; rfl
  | f + 1, a, ha, h => by
    obtain ⟨h1, h2, h3⟩ := fq_spec (near_some hb (@stN_lt x y z) (fun u q v => @stN_back x y z u q v) h)
    obtain ⟨h4, h5⟩ := nr_true.1 h2
    simp only [wyN]
    generalize fqN (stN x y z) (cN x y) b a = q at *
    obtain ⟨n, hn⟩ := Int.eq_ofNat_of_zero_le h4
    have hs : stZ x y z a q = (n : Int) := hn
    rw [hn, Int.toNat_natCast] at h5 ⊢
    rw [wkZ_go (by omega), hs]
    exact wy_walk hb f n (stN_lt a q n hn) (by omega)
theorem wb_len (a b : Int) : (wbL x y z a b).length ≤ 16 := by
  unfold wbL; split
  · rename_i h
    have h' := of_decide_eq_true h
    rw [wy_len]
    unfold dsZ at h'
    split at h'
    · rename_i hh
      obtain ⟨hv, k, rfl, ha0, haN, hak, hN16, hNN⟩ := has_form hh.1
      obtain ⟨-, j, rfl, hb0, hbN, hbj, -, -⟩ := has_form hh.2
      have := (dZ_ge (k : Int).toNat (show (j : Int).toNat < cN x y by omega) (@stN_lt x y z)).2
      omega
    · omega
  · simp
/-- What the law of ways asks. -/
theorem ways {a b : Int} (ha : hasB x y z a = true) (hb : hasB x y z b = true) (h : wbB x y z a b = true) :
    ((wbL x y z a b).length : Int) = dsZ x y z a b ∧ wwB x y z a (wbL x y z a b) = true ∧ wwZ x y z a (wbL x y z a b) = b ∧
    wwB x y z b (rwL (wbL x y z a b)) = true ∧ wwZ x y z b (rwL (wbL x y z a b)) = a ∧
    ((coL x y z a (wbL x y z a b)).length : Int) = dsZ x y z a b + 1 ∧ (coL x y z a (wbL x y z a b))[0]? = some a ∧ (coL x y z a (wbL x y z a b))[(wbL x y z a b).length]? = some b ∧
    wayB (wbL x y z a b) = true ∧ rwL (rwL (wbL x y z a b)) = wbL x y z a b := by
  have hl := @wb_len x y z a b
  have hd := ds_form ha hb
  have h0 := of_decide_eq_true h
  obtain ⟨hv, k, rfl, ha0, haN, hak, hN16, hNN⟩ := has_form ha
  obtain ⟨-, j, rfl, hb0, hbN, hbj, -, -⟩ := has_form hb
  obtain ⟨f, hf⟩ := Int.eq_ofNat_of_zero_le h0
  rw [hak, hbj] at hd
  have he : wbL x y z k j = wyN (stN x y z) (cN x y) j f k := by
    unfold wbL; rw [if_pos h, hak, hbj, ← hd, hf]; simp
  have hw : wkZ x y z (wbL x y z k j) k = (j : Int) := by rw [he]; exact wy_walk hbN f k haN (by omega)
  have hlen : (wbL x y z k j).length = f := by rw [he, wy_len]
  generalize wbL x y z k j = l at *
  have hk0 : (0 : Int) ≤ (k : Int) := by omega
  have hwp : 0 ≤ wkZ x y z l k := by omega
  have hway := wk_way hk0 hwp
  have hbk := wk_back hk0 hwp
  rw [hw] at hbk
  have hww : wwB x y z k l = true := by unfold wwB; rw [ha, decide_eq_true (show l.length ≤ 400 by omega), decide_eq_true hwp]; rfl
  have hrw : rwL l = rvL l := by unfold rwL; rw [if_pos hway]
  have hww2 : wwB x y z j (rwL l) = true := by
    unfold wwB; rw [hb, hrw, hbk, decide_eq_true (show (rvL l).length ≤ 400 by rw [rv_len]; omega), decide_eq_true hk0]; rfl
  refine ⟨by omega, hww, ?_, hww2, ?_, ?_, ?_, ?_, hway, rw_rw hway⟩
  · unfold wwZ; rw [if_pos hww, hw]
  · unfold wwZ; rw [if_pos hww2, hrw, hbk]
  · unfold coL; rw [if_pos hww, ceL_len]; omega
  · unfold coL; rw [if_pos hww, ceL_head]
  · unfold coL; rw [if_pos hww, ceL_last hk0 hwp, hw]
end
end Go.Proofs.Ythakbjdkcdppjaa.wayP
