/- Mazes from arrows, without the program: whatever cell begins, the same maze comes out, and it is perfect. -/
import Derived.Test.YthakbjdkcdppjaaPopP
import Derived.Test.YthakbjdkcdppjaaPerfP
namespace Go.Proofs.Ythakbjdkcdppjaa.popQ
open gridP gridQ bitP mazeP mazeQ reachP reachM reachN reachD forest perfP wayP ersP popP
set_option linter.unusedVariables false

section
variable {x y : Int} {ls : List (List Int)} {t t' T : Int → Nat} {C D : List Int}
/-! ### loops of top arrows -/
/-- The cell behind k top arrows. -/
def itZ (x y : Int) (ls : List (List Int)) (t : Int → Nat) : Nat → Int → Int
  | 0, a => a
  | k + 1, a => itZ x y ls t k (nxZ x y ls t a)
theorem it_add (t : Int → Nat) : ∀ (k m : Nat) (a : Int), itZ x y ls t (k + m) a = itZ x y ls t m (itZ x y ls t k a)
  | 0, m, a => by rw [Nat.zero_add]; rfl
  | k + 1, m, a => by
    rw [show k + 1 + m = (k + m) + 1 by omega]
    exact it_add t k m (nxZ x y ls t a)
def Lp (x y : Int) (ls : List (List Int)) (t : Int → Nat) (C : List Int) : Prop :=
  (∃ a, a ∈ C) ∧ (∀ u ∈ C, t u < (rwA ls u).length) ∧ (∀ u ∈ C, nxZ x y ls t u ∈ C) ∧ ∀ a b, a ∈ C → b ∈ C → ∃ k, itZ x y ls t k a = b
theorem nx_same {u : Int} (h : t' u = t u) : nxZ x y ls t' u = nxZ x y ls t u := by unfold nxZ awZ; rw [h]
theorem it_mem (hc : ∀ u ∈ C, nxZ x y ls t u ∈ C) : ∀ (k : Nat) (a : Int), a ∈ C → itZ x y ls t k a ∈ C
  | 0, a, h => h
  | k + 1, a, h => it_mem hc k _ (hc a h)
theorem it_same (hc : ∀ u ∈ C, nxZ x y ls t u ∈ C) (hs : ∀ u ∈ C, t' u = t u) : ∀ (k : Nat) (a : Int), a ∈ C → itZ x y ls t' k a = itZ x y ls t k a
  | 0, a, h => rfl
  | k + 1, a, h => by
    show itZ x y ls t' k (nxZ x y ls t' a) = itZ x y ls t k (nxZ x y ls t a)
    rw [nx_same (hs a h)]
    exact it_same hc hs k _ (hc a h)
theorem lp_meet (hC : Lp x y ls t C) (hD : Lp x y ls t D) {a : Int} (h1 : a ∈ C) (h2 : a ∈ D) : ∀ b, b ∈ C → b ∈ D := fun b hb => by
  obtain ⟨k, rfl⟩ := hC.2.2.2 a b h1 hb
  exact it_mem hD.2.2.1 k a h2
theorem bmp_same (h : ∀ b, b ∈ C ↔ b ∈ D) : bmp t C = bmp t D := by
  funext u
  unfold bmp
  by_cases hu : u ∈ C
  · rw [if_pos hu, if_pos ((h u).1 hu)]
  · rw [if_neg hu, if_neg (fun h' => hu ((h u).2 h'))]
theorem bmp_comm : bmp (bmp t C) D = bmp (bmp t D) C := by
  funext u
  unfold bmp
  by_cases h1 : u ∈ C <;> by_cases h2 : u ∈ D <;> simp [h1, h2]
theorem lp_stays (hD : Lp x y ls t D) (h : ∀ u ∈ D, u ∉ C) : Lp x y ls (bmp t C) D := by
  have hs : ∀ u ∈ D, bmp t C u = t u := fun u hu => bmp_out (h u hu)
  obtain ⟨h1, h2, h3, h4⟩ := hD
  refine ⟨h1, fun u hu => by rw [hs u hu]; exact h2 u hu, fun u hu => by rw [nx_same (hs u hu)]; exact h3 u hu, fun a b ha hb => ?_⟩
  obtain ⟨k, hk⟩ := h4 a b ha hb
  exact ⟨k, by rw [it_same h3 hs k a ha]; exact hk⟩

/-! ### moves -/
/-- n moves lead from t to s. -/
def Rc (x y : Int) (ls : List (List Int)) : Nat → (Int → Nat) → (Int → Nat) → Prop
  | 0, t, s => t = s
  | n + 1, t, s => ∃ C, Lp x y ls t C ∧ Rc x y ls n (bmp t C) s
theorem rc_pull (hF : ∀ C, ¬ Lp x y ls T C) : ∀ (n : Nat) (t : Int → Nat) (C : List Int), Rc x y ls n t T → Lp x y ls t C → ∃ m, n = m + 1 ∧ Rc x y ls m (bmp t C) T
  | 0, t, C, h, hC => by
    have h : t = T := h
    subst h
    exact absurd hC (hF C)
  | n + 1, t, C, h, hC => by
    obtain ⟨D, hD, h⟩ := h
    by_cases hm : ∃ a, a ∈ C ∧ a ∈ D
    · obtain ⟨a, h1, h2⟩ := hm
      have e : bmp t C = bmp t D := bmp_same fun b => ⟨lp_meet hC hD h1 h2 b, lp_meet hD hC h2 h1 b⟩
      exact ⟨n, rfl, by rw [e]; exact h⟩
    · obtain ⟨m, rfl, h2⟩ := rc_pull hF n (bmp t D) C h (lp_stays hC fun u hu hd => hm ⟨u, hu, hd⟩)
      exact ⟨m + 1, rfl, D, lp_stays hD fun u hu hc => hm ⟨u, hc, hu⟩, by rw [bmp_comm]; exact h2⟩
theorem rc_more (hF : ∀ C, ¬ Lp x y ls T C) : ∀ (m n : Nat) (t s : Int → Nat), Rc x y ls n t T → Rc x y ls m t s → ∃ k, Rc x y ls k s T
  | 0, n, t, s, h, e => by
    have e : t = s := e
    subst e
    exact ⟨n, h⟩
  | m + 1, n, t, s, h, h' => by
    obtain ⟨C, hC, h'⟩ := h'
    obtain ⟨n', rfl, h2⟩ := rc_pull hF n t C h hC
    exact rc_more hF m n' _ s h2 h'
theorem rc_le : ∀ (n : Nat) (t s : Int → Nat), Rc x y ls n t s → ∀ u, t u ≤ s u
  | 0, t, s, h, u => by
    have h : t = s := h
    subst h; exact Nat.le_refl _
  | n + 1, t, s, h, u => by
    obtain ⟨C, hC, h⟩ := h
    exact Nat.le_trans (bmp_ge t C u) (rc_le n _ s h u)
theorem rc_snoc : ∀ (n : Nat) (t s : Int → Nat) (C : List Int), Rc x y ls n t s → Lp x y ls s C → Rc x y ls (n + 1) t (bmp s C)
  | 0, t, s, C, h, hC => by
    have h : t = s := h
    subst h; exact ⟨C, hC, rfl⟩
  | n + 1, t, s, C, h, hC => by
    obtain ⟨D, hD, h⟩ := h
    exact ⟨D, hD, rc_snoc n _ s C h hC⟩
/-- A run to the end is reached by each other one that goes to the end. -/
theorem rc_end {s : Int → Nat} (hT : ∀ C, ¬ Lp x y ls T C) (hs : ∀ C, ¬ Lp x y ls s C) {n m : Nat} (h : Rc x y ls n t T) (h' : Rc x y ls m t s) : s = T := by
  obtain ⟨k, hk⟩ := rc_more hT m n t s h h'
  cases k with
  | zero => exact hk
  | succ k => obtain ⟨C, hC, -⟩ := hk; exact absurd hC (hs C)

/-! ### cells that lead to the first one -/
inductive Ld (x y : Int) (ls : List (List Int)) (t : Int → Nat) : Int → Prop
  | zero : Ld x y ls t 0
  | step (u : Int) (h0 : u ≠ 0) (hl : t u < (rwA ls u).length) (h : Ld x y ls t (nxZ x y ls t u)) : Ld x y ls t u
/-- What holds of the maze's cells. -/
def InL (x y : Int) (ls : List (List Int)) (L : List Int) (t : Int → Nat) : Prop :=
  (∃ n, Rc x y ls n (fun _ => 0) t) ∧ (∀ u ∈ L, u ≠ 0 → t u < (rwA ls u).length ∧ nxZ x y ls t u ∈ L) ∧ ∀ u ∈ L, Ld x y ls t u
theorem ld_keep {L : List Int} (hc : ∀ u ∈ L, u ≠ 0 → t u < (rwA ls u).length ∧ nxZ x y ls t u ∈ L) (hs : ∀ u ∈ L, t' u = t u) {u : Int} (h : Ld x y ls t u) : u ∈ L → Ld x y ls t' u := by
  induction h with
  | zero => exact fun _ => .zero
  | step u h0 hl h ih =>
    intro hu
    refine .step u h0 (by rw [hs u hu]; exact hl) ?_
    rw [nx_same (hs u hu)]
    exact ih (hc u hu h0).2
theorem inL_keep {L : List Int} (h : InL x y ls L t) (hr : ∃ n, Rc x y ls n (fun _ => 0) t') (hs : ∀ u ∈ L, t' u = t u) : InL x y ls L t' :=
  ⟨hr, fun u hu h0 => by rw [hs u hu, nx_same (hs u hu)]; exact h.2.1 u hu h0, fun u hu => ld_keep h.2.1 hs (h.2.2 u hu) hu⟩
/-- Where all cells lead to the first one there is no loop. -/
theorem ld_no (h0 : (rwA ls 0).length = 0) {C : List Int} (hC : Lp x y ls t C) {u : Int} (h : Ld x y ls t u) : u ∉ C := by
  induction h with
  | zero => intro hm; have := hC.2.1 0 hm; omega
  | step u _ _ _ ih => exact fun hm => ih (hC.2.2.1 u hm)
theorem nx_rng (hA : Ao x y ls) {u : Int} (hu : 0 ≤ u ∧ u < x * y) (h : t u < (rwA ls u).length) : 0 ≤ nxZ x y ls t u ∧ nxZ x y ls t u < x * y := ⟨(hA.top hu h).2.1, (hA.top hu h).2.2.1⟩
end

/-! ### walks -/
section
variable {x y : Int} {ls : List (List Int)} {L w : List Int} {c : Int} {t : Int → Nat}
theorem chain_it (h : Pw x y ls L w c t) : ∀ (k i : Nat) (a : Int), w[i]? = some a → i + k ≤ w.length → (w ++ [c])[i + k]? = some (itZ x y ls t k a)
  | 0, i, a, ha, _ => by
    rw [Nat.add_zero, List.getElem?_append_left (List.getElem?_eq_some_iff.1 ha).1]; exact ha
  | k + 1, i, a, ha, hk => by
    have h1 := h.chain i a ha
    rcases Nat.lt_or_ge (i + 1) w.length with hl | hl
    · rw [List.getElem?_append_left hl] at h1
      have := chain_it h k (i + 1) _ h1 (by omega)
      rw [show i + (k + 1) = i + 1 + k by omega]
      exact this
    · obtain rfl : k = 0 := by omega
      exact h1
theorem pw_lp (h : Pw x y ls L w c t) (hc : c ∈ w) : Lp x y ls t (w.drop (ixN w c)) := by
  have hp := ix_lt hc
  have hpa := ix_at hc
  have hend : (w ++ [c])[w.length]? = some c := by simp
  have hat : ∀ u, u ∈ w.drop (ixN w c) → ∃ i, ixN w c ≤ i ∧ w[i]? = some u := fun u hu => by
    obtain ⟨i, hi⟩ := List.getElem?_of_mem hu
    rw [List.getElem?_drop] at hi
    exact ⟨ixN w c + i, by omega, hi⟩
  have hin : ∀ i u, ixN w c ≤ i → w[i]? = some u → u ∈ w.drop (ixN w c) := fun i u hi hu => by
    refine List.mem_of_getElem? (i := i - ixN w c) ?_
    rw [List.getElem?_drop, show ixN w c + (i - ixN w c) = i by omega]; exact hu
  refine ⟨⟨c, h.c_in hc⟩, fun u hu => h.left u (List.mem_of_mem_drop hu), fun u hu => ?_, fun a b ha hb => ?_⟩
  · obtain ⟨i, hi, hu'⟩ := hat u hu
    have h1 := h.chain i u hu'
    have hil := (List.getElem?_eq_some_iff.1 hu').1
    rcases Nat.lt_or_ge (i + 1) w.length with hl | hl
    · rw [List.getElem?_append_left hl] at h1
      exact hin (i + 1) _ (by omega) h1
    · rw [show i + 1 = w.length by omega, hend] at h1
      rw [← Option.some.inj h1]
      exact h.c_in hc
  · obtain ⟨i, hi, ha'⟩ := hat a ha
    obtain ⟨j, hj, hb'⟩ := hat b hb
    have hil := (List.getElem?_eq_some_iff.1 ha').1
    have hjl := (List.getElem?_eq_some_iff.1 hb').1
    have h1 := chain_it h (w.length - i) i a ha' (by omega)
    rw [show i + (w.length - i) = w.length by omega, hend] at h1
    have h2 := chain_it h (j - ixN w c) (ixN w c) c hpa (by omega)
    rw [show ixN w c + (j - ixN w c) = j by omega, List.getElem?_append_left hjl, hb'] at h2
    exact ⟨(w.length - i) + (j - ixN w c), by rw [it_add, ← Option.some.inj h1, ← Option.some.inj h2]⟩
/-- How a walk ends. -/
theorem pw_run : ∀ (f : Nat) (w : List Int) (c : Int) (t : Int → Nat) (c0 : Int), Pw x y ls L w c t → InL x y ls L t → msP x y ls w t < f → (w ++ [c])[0]? = some c0 →
    (∃ w' c' t', pwW x y ls L f w c t = some (w', t') ∧ Pw x y ls L w' c' t' ∧ c' ∈ L ∧ InL x y ls L t' ∧ (∀ u ∈ L, t' u = t u) ∧ (c0 ∈ L ∨ c0 ∈ w')) ∨
    (pwW x y ls L f w c t = none ∧ ∃ s c' n, Rc x y ls n (fun _ => 0) s ∧ (0 ≤ c' ∧ c' < x * y) ∧ c' ≠ 0 ∧ ¬ s c' < (rwA ls c').length)
  | 0, w, c, t, c0, _, _, h, _ => absurd h (by omega)
  | f + 1, w, c, t, c0, hP, hI, hf, hc0 => by
    by_cases hc : c ∈ L
    · refine .inl ⟨w, c, t, pw_in hc, hP, hc, hI, fun _ _ => rfl, ?_⟩
      cases w with
      | nil => left; simp at hc0; rw [← hc0]; exact hc
      | cons a w => right; simp at hc0; rw [← hc0]; simp
    · have hs : ∀ u ∈ L, bmp t (w.drop (ixN w c)) u = t u := fun u hu => bmp_out fun h => hP.out u (List.mem_of_mem_drop h) hu
      have hr : ∃ n, Rc x y ls n (fun _ => 0) (bmp t (w.drop (ixN w c))) := by
        obtain ⟨n, hn⟩ := hI.1
        by_cases hm : c ∈ w
        · exact ⟨n + 1, rc_snoc n _ _ _ hn (pw_lp hP hm)⟩
        · rw [ix_none hm, List.drop_length, bmp_nil]; exact ⟨n, hn⟩
      have hI2 := inL_keep hI hr hs
      by_cases hl : bmp t (w.drop (ixN w c)) c < (rwA ls c).length
      · obtain ⟨hP2, hm2⟩ := hP.step hc hl
        have hc2 : (w.take (ixN w c) ++ [c] ++ [nxZ x y ls (bmp t (w.drop (ixN w c))) c])[0]? = some c0 := by
          rcases Nat.eq_zero_or_pos (ixN w c) with e | e
          · have h1 := ix_snoc w c
            rw [e, hc0] at h1
            rw [e]; simpa using h1.symm
          · have hle := ix_le w c
            cases w with
            | nil => simp [ixN] at e
            | cons a w =>
              cases hk : ixN (a :: w) c with
              | zero => omega
              | succ k => simp at hc0 ⊢; exact hc0
        rw [pw_next hc hl]
        rcases pw_run f _ _ _ c0 hP2 hI2 (by omega) hc2 with ⟨w', c', t', h1, h2, h3, h4, h5, h6⟩ | h
        · exact .inl ⟨w', c', t', h1, h2, h3, h4, fun u hu => (h5 u hu).trans (hs u hu), h6⟩
        · exact .inr h
      · refine .inr ⟨pw_none hc hl, bmp t (w.drop (ixN w c)), c, ?_⟩
        obtain ⟨n, hn⟩ := hr
        exact ⟨n, hn, hP.here, fun e => hc (by rw [e]; exact hP.zero), hl⟩
/-- The cells that are left lead to the maze. -/
theorem ld_walk (h : Pw x y ls L w c t) (hc : Ld x y ls t c) : ∀ (k i : Nat), i + k = w.length → ∀ u, (w ++ [c])[i]? = some u → Ld x y ls t u
  | 0, i, hi, u, hu => by
    obtain rfl : i = w.length := by omega
    simp at hu
    rw [← hu]; exact hc
  | k + 1, i, hi, u, hu => by
    have hil : i < w.length := by omega
    rw [List.getElem?_append_left hil] at hu
    have hm := List.mem_of_getElem? hu
    exact .step u (fun e => h.out u hm (by rw [e]; exact h.zero)) (h.left u hm) (ld_walk h hc k (i + 1) (by omega) _ (h.chain i u hu))
theorem inL_join (h : Pw x y ls L w c t) (hc : c ∈ L) (hI : InL x y ls L t) : InL x y ls (L ++ w) t := by
  refine ⟨hI.1, fun u hu h0 => ?_, fun u hu => ?_⟩
  · rcases List.mem_append.1 hu with hu | hu
    · exact ⟨(hI.2.1 u hu h0).1, List.mem_append_left _ (hI.2.1 u hu h0).2⟩
    · refine ⟨h.left u hu, ?_⟩
      obtain ⟨i, hi⟩ := List.getElem?_of_mem hu
      have hil := (List.getElem?_eq_some_iff.1 hi).1
      have h1 := h.chain i u hi
      rcases Nat.lt_or_ge (i + 1) w.length with hl | hl
      · rw [List.getElem?_append_left hl] at h1
        exact List.mem_append_right _ (List.mem_of_getElem? h1)
      · rw [show i + 1 = w.length by omega] at h1
        simp at h1
        rw [← h1]
        exact List.mem_append_left _ hc
  · rcases List.mem_append.1 hu with hu | hu
    · exact hI.2.2 u hu
    · obtain ⟨i, hi⟩ := List.getElem?_of_mem hu
      have hil := (List.getElem?_eq_some_iff.1 hi).1
      exact ld_walk h (hI.2.2 c hc) (w.length - i) i (by omega) u (by rw [List.getElem?_append_left hil]; exact hi)
end

/-! ### the maze's gaps -/
section
variable {x y : Int} {ls : List (List Int)} {t : Int → Nat}
theorem sg_open (hk : OkZ x y) {m g : Nat} (hm : m < 2 ^ gN x y) (hg : g < gN x y) :
    ∃ m' : Nat, sgZ x y m g true = (m' : Int) ∧ m' < 2 ^ gN x y ∧ pcN m' (gN x y) ≤ pcN m (gN x y) + 1 ∧ ∀ j, j < gN x y → (bt m' j = 1 ↔ bt m j = 1 ∨ j = g) := by
  have hv := okm hk hm
  have hgz : (g : Int) < gpsZ x y := by unfold gN at hg; omega
  have hs : sgB x y m g = true := decide_eq_true ⟨hv, by omega, hgz⟩
  unfold sgZ
  rw [if_pos hs, bitZ_bt (by omega) (by omega), Int.toNat_natCast, Int.toNat_natCast]
  by_cases hb : bt m g = 1
  · rw [hb, if_pos (by decide), if_pos rfl]
    refine ⟨m, rfl, hm, by omega, fun j hj => ⟨.inl, fun h => ?_⟩⟩
    rcases h with h | h
    · exact h
    · rw [h]; exact hb
  · have h0 : bt m g = 0 := by have := bt_le m g; omega
    rw [h0, if_neg (by decide), if_pos rfl]
    refine ⟨m + 2 ^ g, by simp, add_lt hm hg h0, by rw [pc_add h0 hg]; omega, fun j hj => ?_⟩
    rw [bt_add h0 j]
    by_cases e : j = g
    · simp [e]
    · simp [e]
/-- The gap of a cell's top arrow. -/
theorem gap_at (hA : Ao x y ls) {u : Int} (hu : 0 ≤ u ∧ u < x * y) (h : t u < (rwA ls u).length) : ∃ g : Nat, gpZ x y u (awZ ls t u) = g ∧ g < gN x y := by
  obtain ⟨-, -, -, -, hn⟩ := hA.top hu h
  obtain ⟨b1, -⟩ := both x y u (awZ ls t u) hn
  have hlt := gp_lt x y u (awZ ls t u) hn
  exact ⟨(gpZ x y u (awZ ls t u)).toNat, by omega, by unfold gN; omega⟩
theorem jn_bits (hA : Ao x y ls) : ∀ (w : List Int) (m : Nat), (∀ u ∈ w, (0 ≤ u ∧ u < x * y) ∧ t u < (rwA ls u).length) → m < 2 ^ gN x y →
    ∃ m' : Nat, jnO x y ls t w m = (m' : Int) ∧ m' < 2 ^ gN x y ∧ pcN m' (gN x y) ≤ pcN m (gN x y) + w.length ∧ ∀ j, j < gN x y → (bt m' j = 1 ↔ bt m j = 1 ∨ ∃ u ∈ w, gpZ x y u (awZ ls t u) = j)
  | [], m, _, hm => ⟨m, rfl, hm, by simp, fun j hj => by simp⟩
  | u :: w, m, hw, hm => by
    obtain ⟨hu, hl⟩ := hw u (by simp)
    obtain ⟨g, e, hg⟩ := gap_at hA hu hl
    obtain ⟨m1, e1, h1, p1, b1⟩ := sg_open hA.1 hm hg
    obtain ⟨m2, e2, h2, p2, b2⟩ := jn_bits hA w m1 (fun v hv => hw v (by simp [hv])) h1
    refine ⟨m2, ?_, h2, by simp only [List.length_cons]; omega, fun j hj => ?_⟩
    · unfold jnO at e2 ⊢
      rw [List.foldl_cons, e, e1]; exact e2
    · rw [b2 j hj, b1 j hj]
      constructor
      · rintro ((h | h) | ⟨v, hv, h⟩)
        · exact .inl h
        · exact .inr ⟨u, by simp, by rw [e, h]⟩
        · exact .inr ⟨v, by simp [hv], h⟩
      · rintro (h | ⟨v, hv, h⟩)
        · exact .inl (.inl h)
        · rcases List.mem_cons.1 hv with rfl | hv
          · exact .inl (.inr (by rw [e] at h; omega))
          · exact .inr ⟨v, hv, h⟩
end

/-! ### all walks -/
section
variable {x y : Int} {ls : List (List Int)}
structure Pp (x y : Int) (ls : List (List Int)) (t : Int → Nat) (L : List Int) (o : Int) : Prop where
  ao : Ao x y ls
  zero : (0 : Int) ∈ L
  nod : L.Nodup
  rng : ∀ u ∈ L, 0 ≤ u ∧ u < x * y
  all : ∀ u, t u ≤ (rwA ls u).length
  inn : InL x y ls L t
  bits : ∃ m : Nat, o = (m : Int) ∧ m < 2 ^ gN x y ∧ pcN m (gN x y) + 1 ≤ L.length ∧ ∀ j, j < gN x y → (bt m j = 1 ↔ ∃ u ∈ L, u ≠ 0 ∧ gpZ x y u (awZ ls t u) = j)
theorem bt_zero (j : Nat) : bt 0 j = 0 := by unfold bt; simp
theorem pc_zero : ∀ k, pcN 0 k = 0
  | 0 => rfl
  | k + 1 => by rw [pcN, pc_zero k]; simp
theorem pp_start (hA : Ao x y ls) : Pp x y ls (fun _ => 0) [0] 0 := by
  have hn := hA.n16
  refine ⟨hA, by simp, by simp, fun u hu => ?_, fun _ => Nat.zero_le _, ⟨⟨0, rfl⟩, fun u hu h0 => ?_, fun u hu => ?_⟩, 0, rfl, Nat.pow_pos (by decide), by rw [pc_zero]; simp, fun j hj => ?_⟩
  · rw [List.mem_singleton.1 hu]; omega
  · exact absurd (List.mem_singleton.1 hu) h0
  · rw [List.mem_singleton.1 hu]; exact .zero
  · rw [bt_zero]
    refine ⟨fun h => absurd h (by decide), fun ⟨u, hu, h0, _⟩ => absurd (List.mem_singleton.1 hu) h0⟩
theorem Pp.join {t t' : Int → Nat} {L w : List Int} {o c : Int} (h : Pp x y ls t L o) (hP : Pw x y ls L w c t') (hc : c ∈ L) (hI : InL x y ls L t') (hs : ∀ u ∈ L, t' u = t u) : Pp x y ls t' (L ++ w) (jnO x y ls t' w o) := by
  obtain ⟨m, rfl, hm, hpc, hb⟩ := h.bits
  obtain ⟨m', e, h1, h2, h3⟩ := jn_bits (t := t') h.ao w m (fun u hu => ⟨hP.rng u hu, hP.left u hu⟩) hm
  refine ⟨h.ao, List.mem_append_left _ h.zero, ?_, fun u hu => ?_, hP.all, inL_join hP hc hI, m', e, h1, by rw [List.length_append]; omega, fun j hj => ?_⟩
  · rw [List.nodup_append]
    exact ⟨h.nod, hP.nod, fun a ha b hb' e => hP.out b hb' (by rw [← e]; exact ha)⟩
  · rcases List.mem_append.1 hu with hu | hu
    · exact h.rng u hu
    · exact hP.rng u hu
  · have haw : ∀ u ∈ L, awZ ls t' u = awZ ls t u := fun u hu => by unfold awZ; rw [hs u hu]
    rw [h3 j hj, hb j hj]
    constructor
    · rintro (⟨u, hu, h0, hg⟩ | ⟨u, hu, hg⟩)
      · exact ⟨u, List.mem_append_left _ hu, h0, by rw [haw u hu]; exact hg⟩
      · exact ⟨u, List.mem_append_right _ hu, fun e => hP.out u hu (by rw [e]; exact h.zero), hg⟩
    · rintro ⟨u, hu, h0, hg⟩
      rcases List.mem_append.1 hu with hu | hu
      · exact .inl ⟨u, hu, h0, by rw [← haw u hu]; exact hg⟩
      · exact .inr ⟨u, hu, hg⟩
theorem pp_run : ∀ (B : List Int) (t : Int → Nat) (L : List Int) (o : Int), Pp x y ls t L o → (∀ c ∈ B, 0 ≤ c ∧ c < x * y) →
    (∃ t' L' o', ppA x y ls B t L o = some (t', L', o') ∧ Pp x y ls t' L' o' ∧ (∀ c ∈ L, c ∈ L') ∧ ∀ c ∈ B, c ∈ L') ∨
    (ppA x y ls B t L o = none ∧ ∃ s c n, Rc x y ls n (fun _ => 0) s ∧ (0 ≤ c ∧ c < x * y) ∧ c ≠ 0 ∧ ¬ s c < (rwA ls c).length)
  | [], t, L, o, h, _ => .inl ⟨t, L, o, rfl, h, fun _ h => h, fun c hc => by cases hc⟩
  | c :: B, t, L, o, h, hB => by
    have hpw : Pw x y ls L [] c t := ⟨h.ao, h.zero, by simp, by simp, by simp, by simp, h.all, hB c (by simp), fun i a hi => by simp at hi⟩
    rcases pw_run 20000 [] c t c hpw h.inn (ms_bd h.ao [] t) rfl with ⟨w, c', t', h1, h2, h3, h4, h5, h6⟩ | ⟨h1, h2⟩
    · have hJ := h.join h2 h3 h4 h5
      rw [pp_some h1]
      rcases pp_run B t' (L ++ w) _ hJ (fun d hd => hB d (by simp [hd])) with ⟨t2, L2, o2, g1, g2, g3, g4⟩ | g
      · refine .inl ⟨t2, L2, o2, g1, g2, fun d hd => g3 d (List.mem_append_left _ hd), fun d hd => ?_⟩
        rcases List.mem_cons.1 hd with rfl | hd
        · rcases h6 with h6 | h6
          · exact g3 d (List.mem_append_left _ h6)
          · exact g3 d (List.mem_append_right _ h6)
        · exact g4 d hd
      · exact .inr g
    · exact .inr ⟨pp_none h1, h2⟩
theorem bg_all {l : List Int} (hA : Ao x y ls) (hl : ∀ u ∈ l, 0 ≤ u ∧ u < x * y) : (∀ u ∈ bgL ls l, 0 ≤ u ∧ u < x * y) ∧ ∀ u, 0 ≤ u ∧ u < x * y → u ∈ bgL ls l := by
  have hn := hA.n16
  refine ⟨fun u hu => ?_, fun u hu => ?_⟩
  · rcases List.mem_append.1 hu with h | h
    · exact hl u h
    · obtain ⟨j, hj, rfl⟩ := List.mem_map.1 h
      have := List.mem_range.1 hj
      omega
  · refine List.mem_append_right _ (List.mem_map.2 ⟨u.toNat, List.mem_range.2 (by omega), by omega⟩)
theorem ip_is' (hk : OkZ x y) {o : Nat} (ho : o < 2 ^ gN x y) : ipB x y o = true ↔ lp x y o = 0 ∧ pt x y o = 1 := by
  obtain ⟨-, -, -, h⟩ := perfects (okm hk ho)
  rw [h, Bool.and_eq_true, beq_iff_eq, cl_lp hk ho]
  unfold reachD.cnB
  rw [beq_iff_eq, pt_pt hk ho]
  omega
/-- What a run that has come to its end has made. -/
theorem Pp.perfect {t : Int → Nat} {L : List Int} {o : Int} (h : Pp x y ls t L o) (hall : ∀ u, 0 ≤ u ∧ u < x * y → u ∈ L) : ipB x y o = true := by
  obtain ⟨m, rfl, hm, hpc, hb⟩ := h.bits
  have hk := h.ao.1
  have hn := h.ao.n16
  have hLl := int_nodup (N := cN x y) h.nod fun u hu => by have := h.rng u hu; omega
  have hcn : ∀ u : Int, Ld x y ls t u → 0 ≤ u ∧ u < x * y → Cn x y m u.toNat 0 := fun u hu => by
    induction hu with
    | zero => exact fun _ => cn_refl _ _
    | step u h0 hl hnx ih =>
      intro hr
      obtain ⟨-, n1, n2, -, hneg⟩ := h.ao.top hr hl
      obtain ⟨g, eg, hg⟩ := gap_at h.ao hr hl
      have hbit := (hb g hg).2 ⟨u, hall u hr, h0, eg⟩
      have hc := cn_gap (okm hk hm) hg hbit
      obtain ⟨b1, b2, b3, b4, b5, b6⟩ := both x y u (awZ ls t u) hneg
      rw [eg] at b4 b5 b6
      have e1 := (ends_lt hk hg).2.2
      have hne := nb_ne (x := x) (y := y) u (awZ ls t u)
      refine cn_trans ?_ (ih ⟨n1, n2⟩)
      have hnx' : nxZ x y ls t u = nbZ x y u (awZ ls t u) := rfl
      rw [hnx'] at n1 n2 ⊢
      rcases b5 with e | e
      · have e2 : ebZ x y g = nbZ x y u (awZ ls t u) := by rcases b6 with e' | e' <;> omega
        have e3 : u.toNat = aN x y g := by omega
        have e4 : (nbZ x y u (awZ ls t u)).toNat = bN x y g := by omega
        rw [e3, e4]; exact hc
      · have e2 : eaZ x y g = nbZ x y u (awZ ls t u) := by rcases b6 with e' | e' <;> omega
        have e3 : u.toNat = bN x y g := by omega
        have e4 : (nbZ x y u (awZ ls t u)).toNat = aN x y g := by omega
        rw [e3, e4]; exact cn_symm hc
  have hz : ∀ k : Nat, k < cN x y → Cn x y m k 0 := fun k hk' => by
    have := hcn k (h.inn.2.2 k (hall k (by omega))) (by omega)
    simpa using this
  have hpt : pt x y m = 1 := by
    unfold pt
    rw [cpN_one _ _ _ (by omega)]
    intro k hk0 hkN
    rw [← Bool.not_eq_true, least_iff hkN]
    exact fun hh => hh 0 hk0 (hz k hkN)
  have hlp := lp_pos hk hm
  refine (ip_is' hk hm).2 ⟨?_, hpt⟩
  unfold lp at hlp ⊢
  rw [hpt] at hlp ⊢
  omega
theorem Pp.no_loop {t : Int → Nat} {L : List Int} {o : Int} (h : Pp x y ls t L o) (hall : ∀ u, 0 ≤ u ∧ u < x * y → u ∈ L) : ∀ C, ¬ Lp x y ls t C := fun C hC => by
  obtain ⟨a, ha⟩ := hC.1
  have hlt := hC.2.1 a ha
  by_cases hr : 0 ≤ a ∧ a < x * y
  · exact ld_no h.ao.2.2.1 hC (h.inn.2.2 a (hall a hr)) ha
  · have hn := h.ao.n16
    rcases Int.lt_or_le a 0 with h' | h'
    · rw [rw_neg h', h.ao.2.2.1] at hlt; omega
    · rw [rw_out (by omega)] at hlt
      simp at hlt
theorem bt_ext' {m m' G : Nat} (h1 : m < 2 ^ G) (h2 : m' < 2 ^ G) (h : ∀ j, j < G → (bt m j = 1 ↔ bt m' j = 1)) : m = m' := by
  apply Nat.eq_of_testBit_eq
  intro i
  rw [bt_test, bt_test]
  by_cases hi : i < G
  · rw [decide_eq_decide]; exact h i hi
  · rw [bt_lt h1 (by omega), bt_lt h2 (by omega)]
/-- Whatever cells begin, it comes out the same. -/
theorem arrows {l l' : List Int} (hA : Ao x y ls) (hl : ∀ u ∈ l, 0 ≤ u ∧ u < x * y) (hl' : ∀ u ∈ l', 0 ≤ u ∧ u < x * y) :
    (ppR x y ls l = none ∧ ppR x y ls l' = none) ∨ (∃ t L L' o, ppR x y ls l = some (t, L, o) ∧ ppR x y ls l' = some (t, L', o) ∧ ipB x y o = true) := by
  have hb := bg_all hA hl
  have hb' := bg_all hA hl'
  have key : ∀ {l l' : List Int} {t : Int → Nat} {L : List Int} {o : Int}, Pp x y ls t L o → (∀ u, 0 ≤ u ∧ u < x * y → u ∈ L) → (∀ u ∈ bgL ls l', 0 ≤ u ∧ u < x * y) → (∀ u, 0 ≤ u ∧ u < x * y → u ∈ bgL ls l') → ∃ L' , ppR x y ls l' = some (t, L', o) := fun {l l' t L o} hP hall h1 h2 => by
    obtain ⟨n, hn⟩ := hP.inn.1
    have hF := hP.no_loop hall
    rcases pp_run (bgL ls l') (fun _ => 0) [0] 0 (pp_start hA) h1 with ⟨t', L', o', g1, g2, -, g4⟩ | ⟨-, s, c, k, hk, hr, h0, hns⟩
    · have hall' : ∀ u, 0 ≤ u ∧ u < x * y → u ∈ L' := fun u hu => g4 u (h2 u hu)
      obtain ⟨n', hn'⟩ := g2.inn.1
      obtain rfl := rc_end hF (g2.no_loop hall') hn hn'
      obtain ⟨m, rfl, hm, -, hbm⟩ := hP.bits
      obtain ⟨m', rfl, hm', -, hbm'⟩ := g2.bits
      obtain rfl : m = m' := bt_ext' hm hm' fun j hj => by
        rw [hbm j hj, hbm' j hj]
        exact ⟨fun ⟨u, hu, a, b⟩ => ⟨u, hall' u (hP.rng u hu), a, b⟩, fun ⟨u, hu, a, b⟩ => ⟨u, hall u (g2.rng u hu), a, b⟩⟩
      exact ⟨L', g1⟩
    · exfalso
      obtain ⟨j, hj⟩ := rc_more hF k n _ s hn hk
      have h3 := rc_le j _ _ hj c
      have h4 := (hP.inn.2.1 c (hall c hr) h0).1
      omega
  rcases pp_run (bgL ls l) (fun _ => 0) [0] 0 (pp_start hA) hb.1 with ⟨t, L, o, g1, g2, -, g4⟩ | ⟨g1, -⟩
  · have hall : ∀ u, 0 ≤ u ∧ u < x * y → u ∈ L := fun u hu => g4 u (hb.2 u hu)
    obtain ⟨L', e⟩ := key (l := l) g2 hall hb'.1 hb'.2
    exact .inr ⟨t, L, L', o, g1, e, g2.perfect hall⟩
  · rcases pp_run (bgL ls l') (fun _ => 0) [0] 0 (pp_start hA) hb'.1 with ⟨t, L, o, g1', g2, -, g4⟩ | ⟨g1', -⟩
    · have hall : ∀ u, 0 ≤ u ∧ u < x * y → u ∈ L := fun u hu => g4 u (hb'.2 u hu)
      obtain ⟨L', e⟩ := key (l := l') g2 hall hb.1 hb.2
      rw [show ppR x y ls l = none from g1] at e
      cases e
    · exact .inl ⟨g1, g1'⟩
end
end Go.Proofs.Ythakbjdkcdppjaa.popQ
