/- The right hand on the wall, without the program: in a perfect maze it leads through every passage twice. -/
import Derived.Test.YthfcemihaoijgaaDeads

namespace Go.Proofs.Ythfcemihaoijgaa.handP
open gridP gridQ bitP mazeP mazeQ reachP reachM reachN forest deadP deadQ
set_option linter.unusedVariables false

/-! ### turning at a cell -/
def pk (b0 b1 b2 b3 : Bool) : Nat → Bool
  | 0 => b0
  | 1 => b1
  | 2 => b2
  | _ => b3
/-- The first open direction from e on, turning left. -/
def nx (p : Nat → Bool) (e : Nat) : Nat := if p e = true then e else if p ((e + 3) % 4) = true then (e + 3) % 4 else if p ((e + 2) % 4) = true then (e + 2) % 4 else (e + 1) % 4
theorem pk_at (p : Nat → Bool) {e : Nat} (he : e < 4) : p e = pk (p 0) (p 1) (p 2) (p 3) e := by
  rcases (by omega : e = 0 ∨ e = 1 ∨ e = 2 ∨ e = 3) with rfl | rfl | rfl | rfl <;> rfl
theorem nx_pk (p : Nat → Bool) {e : Nat} (he : e < 4) : nx p e = nx (pk (p 0) (p 1) (p 2) (p 3)) e := by
  unfold nx
  rw [pk_at p he, pk_at p (show (e + 3) % 4 < 4 by omega), pk_at p (show (e + 2) % 4 < 4 by omega)]
theorem nx_lt (p : Nat → Bool) {e : Nat} (he : e < 4) : nx p e < 4 := by
  unfold nx; repeat' split
  all_goals omega
theorem nx_on (p : Nat → Bool) {e r : Nat} (he : e < 4) (hr : r < 4) (h : p r = true) : p (nx p e) = true := by
  unfold nx
  split
  · assumption
  · split
    · assumption
    · split
      · assumption
      · rename_i h1 h2 h3
        rcases (by omega : r = e ∨ r = (e + 3) % 4 ∨ r = (e + 2) % 4 ∨ r = (e + 1) % 4) with rfl | rfl | rfl | rfl
        · exact absurd h h1
        · exact absurd h h2
        · exact absurd h h3
        · exact h
theorem inj_fin : ∀ b0 b1 b2 b3 : Bool, ∀ e e' : Fin 4, pk b0 b1 b2 b3 e = true → pk b0 b1 b2 b3 e' = true → nx (pk b0 b1 b2 b3) ((e + 3) % 4 : Nat) = nx (pk b0 b1 b2 b3) ((e' + 3) % 4 : Nat) → e = e' := by decide +kernel
theorem nx_inj (p : Nat → Bool) {e e' : Nat} (he : e < 4) (he' : e' < 4) (h : p e = true) (h' : p e' = true) (hx : nx p ((e + 3) % 4) = nx p ((e' + 3) % 4)) : e = e' := by
  rw [nx_pk p (show (e + 3) % 4 < 4 by omega), nx_pk p (show (e' + 3) % 4 < 4 by omega)] at hx
  rw [pk_at p he] at h; rw [pk_at p he'] at h'
  have := inj_fin (p 0) (p 1) (p 2) (p 3) ⟨e, he⟩ ⟨e', he'⟩ h h' hx
  exact congrArg Fin.val this
/-- p' is p without r. -/
theorem less_fin : ∀ b0 b1 b2 b3 : Bool, ∀ e r s : Fin 4, pk b0 b1 b2 b3 r = true → s ≠ r → pk b0 b1 b2 b3 s = true →
    (nx (pk b0 b1 b2 b3) e = r → nx (fun k => pk b0 b1 b2 b3 k && k != r) e = nx (pk b0 b1 b2 b3) ((r + 3) % 4 : Nat)) ∧ (nx (pk b0 b1 b2 b3) e ≠ r → nx (fun k => pk b0 b1 b2 b3 k && k != r) e = nx (pk b0 b1 b2 b3) e) ∧ nx (pk b0 b1 b2 b3) ((r + 3) % 4 : Nat) ≠ r := by decide +kernel
theorem nx_less {p p' : Nat → Bool} {e r s : Nat} (he : e < 4) (hr : r < 4) (hs : s < 4) (hp : ∀ k, k < 4 → p' k = (p k && k != r)) (h1 : p r = true) (h2 : p' s = true) :
    (nx p e = r → nx p' e = nx p ((r + 3) % 4)) ∧ (nx p e ≠ r → nx p' e = nx p e) ∧ nx p ((r + 3) % 4) ≠ r := by
  have h3 := hp s hs
  rw [h2] at h3
  have h4 : p s = true ∧ s ≠ r := by simpa using h3.symm
  have hn : nx p' e = nx (fun k => pk (p 0) (p 1) (p 2) (p 3) k && k != r) e := by
    unfold nx
    rw [hp e he, hp _ (show (e + 3) % 4 < 4 by omega), hp _ (show (e + 2) % 4 < 4 by omega), pk_at p he, pk_at p (show (e + 3) % 4 < 4 by omega), pk_at p (show (e + 2) % 4 < 4 by omega)]
  rw [hn, nx_pk p he, nx_pk p (show (r + 3) % 4 < 4 by omega)]
  rw [pk_at p hr] at h1; rw [pk_at p hs] at h4
  have := less_fin (p 0) (p 1) (p 2) (p 3) ⟨e, he⟩ ⟨r, hr⟩ ⟨s, hs⟩ h1 (fun e => h4.2 (congrArg Fin.val e)) h4.1
  exact this
theorem prev_fin : ∀ b0 b1 b2 b3 : Bool, ∀ r s : Fin 4, pk b0 b1 b2 b3 r = true → s ≠ r → pk b0 b1 b2 b3 s = true → ∃ e : Fin 4, e ≠ r ∧ pk b0 b1 b2 b3 e = true ∧ nx (pk b0 b1 b2 b3) ((e + 3) % 4 : Nat) = r := by decide +kernel
theorem nx_prev {p : Nat → Bool} {r s : Nat} (hr : r < 4) (hs : s < 4) (h1 : p r = true) (hne : s ≠ r) (h2 : p s = true) : ∃ e, e < 4 ∧ e ≠ r ∧ p e = true ∧ nx p ((e + 3) % 4) = r := by
  rw [pk_at p hr] at h1; rw [pk_at p hs] at h2
  obtain ⟨e, a1, a2, a3⟩ := prev_fin (p 0) (p 1) (p 2) (p 3) ⟨r, hr⟩ ⟨s, hs⟩ h1 (fun e => hne (congrArg Fin.val e)) h2
  refine ⟨e, e.2, fun h => a1 (Fin.ext h), by rw [pk_at p e.2]; exact a2, ?_⟩
  rw [nx_pk p (show ((e : Nat) + 3) % 4 < 4 by omega)]; exact a3
theorem nx_only {p : Nat → Bool} {r e : Nat} (hr : r < 4) (he : e < 4) (h1 : p r = true) (h : ∀ k, k < 4 → p k = true → k = r) : nx p e = r := h _ (nx_lt p he) (nx_on p he hr h1)

/-! ### moves -/
/-- The open directions of a cell. -/
def opB (st : Nat → Nat → Int) (c q : Nat) : Bool := decide (0 ≤ st c q)
/-- One move: to the right, straight on, to the left, back. -/
def mv (st : Nat → Nat → Int) (s : Nat × Nat) : Nat × Nat := ((st s.1 (nx (opB st s.1) ((s.2 + 1) % 4))).toNat, nx (opB st s.1) ((s.2 + 1) % 4))
/-- A walker who has just come through a passage. -/
def Ar (st : Nat → Nat → Int) (s : Nat × Nat) : Prop := s.2 < 4 ∧ 0 ≤ st s.1 ((s.2 + 2) % 4)
def it (f : Nat × Nat → Nat × Nat) : Nat → Nat × Nat → Nat × Nat
  | 0, s => s
  | n + 1, s => it f n (f s)
theorem it_add (f : Nat × Nat → Nat × Nat) : ∀ (n m : Nat) (s : Nat × Nat), it f (n + m) s = it f m (it f n s)
  | 0, m, s => by rw [Nat.zero_add]; rfl
  | n + 1, m, s => by
    rw [show n + 1 + m = (n + m) + 1 by omega]
    show it f (n + m) (f s) = it f m (it f n (f s))
    exact it_add f n m (f s)
theorem it_succ (f : Nat × Nat → Nat × Nat) (n : Nat) (s : Nat × Nat) : it f (n + 1) s = f (it f n s) := it_add f n 1 s

section
variable {x y : Int}
theorem stN_back2 {o u q v : Nat} (hs : stN x y o u q = (v : Int)) : stN x y o v ((q + 2) % 4) = (u : Int) := by
  unfold stN at hs ⊢
  have h := step_back (w := x) (h := y) (o := o) (k := u) (d := q) (by omega)
  rw [hs] at h
  rw [← h]
  congr 1
/-- Where a move leads. -/
theorem mv_step {o : Nat} {s : Nat × Nat} (h2 : s.2 < 4) (hw : ∃ q, q < 4 ∧ 0 ≤ stN x y o s.1 q) : (mv (stN x y o) s).2 < 4 ∧ stN x y o s.1 (mv (stN x y o) s).2 = ((mv (stN x y o) s).1 : Int) ∧ stN x y o (mv (stN x y o) s).1 (((mv (stN x y o) s).2 + 2) % 4) = (s.1 : Int) := by
  obtain ⟨q, hq, h0⟩ := hw
  have hn := nx_on (opB (stN x y o) s.1) (e := (s.2 + 1) % 4) (by omega) hq (decide_eq_true h0)
  have hp := of_decide_eq_true hn
  have hl := nx_lt (opB (stN x y o) s.1) (e := (s.2 + 1) % 4) (by omega)
  have h1 : stN x y o s.1 (mv (stN x y o) s).2 = ((mv (stN x y o) s).1 : Int) := by
    unfold mv; simp only; omega
  exact ⟨hl, h1, stN_back2 h1⟩
theorem ar_way {o : Nat} {s : Nat × Nat} (h : Ar (stN x y o) s) : ∃ q, q < 4 ∧ 0 ≤ stN x y o s.1 q := ⟨_, Nat.mod_lt _ (by decide), h.2⟩
theorem mv_ar {o : Nat} {s : Nat × Nat} (h2 : s.2 < 4) (hw : ∃ q, q < 4 ∧ 0 ≤ stN x y o s.1 q) : Ar (stN x y o) (mv (stN x y o) s) := by
  obtain ⟨a, b, c⟩ := mv_step h2 hw
  exact ⟨a, by rw [c]; omega⟩
theorem it_ar {o : Nat} {s : Nat × Nat} (h : Ar (stN x y o) s) : ∀ n, Ar (stN x y o) (it (mv (stN x y o)) n s)
  | 0 => h
  | n + 1 => by rw [it_succ]; exact mv_ar (it_ar h n).1 (ar_way (it_ar h n))
theorem mv_cn {o : Nat} {s : Nat × Nat} (h : Ar (stN x y o) s) : Cn x y o s.1 (mv (stN x y o) s).1 := by
  obtain ⟨a, b, -⟩ := mv_step h.1 (ar_way h)
  exact ⟨1, .step .zero a b⟩
theorem mv_inj {o : Nat} {s t : Nat × Nat} (hs : Ar (stN x y o) s) (ht : Ar (stN x y o) t) (h : mv (stN x y o) s = mv (stN x y o) t) : s = t := by
  obtain ⟨-, -, a⟩ := mv_step hs.1 (ar_way hs)
  obtain ⟨-, -, b⟩ := mv_step ht.1 (ar_way ht)
  rw [h, b] at a
  have hc : t.1 = s.1 := by omega
  have hd := congrArg Prod.snd h
  unfold mv at hd
  simp only at hd
  rw [hc] at hd
  have h1 := hs.1; have h2 := ht.1
  have := nx_inj (opB (stN x y o) s.1) (e := (s.2 + 2) % 4) (e' := (t.2 + 2) % 4) (by omega) (by omega) (decide_eq_true hs.2) (decide_eq_true (by rw [← hc]; exact ht.2))
    (by rw [show ((s.2 + 2) % 4 + 3) % 4 = (s.2 + 1) % 4 by omega, show ((t.2 + 2) % 4 + 3) % 4 = (t.2 + 1) % 4 by omega]; exact hd)
  exact Prod.ext hc.symm (by omega)

/-! ### a dead end is left out -/
theorem gap_uniq {u q q' g : Nat} (hk : OkZ x y) (hu : u < cN x y) (hg : g < gN x y) (hq : q < 4) (hq' : q' < 4) (h : gpZ x y u q = (g : Int)) (h' : gpZ x y u q' = (g : Int)) : q = q' := by
  refine cnt_one (p := fun q => gpZ x y u (q : Nat) == (g : Int)) (n := 4) ?_ hq hq' (by simpa using h) (by simpa using h')
  rw [gaps_of hk hu hg]; split <;> omega
theorem op_less {o u q g : Nat} (hk : OkZ x y) (ho : o < 2 ^ gN x y) (hb : bt o g = 1) : 0 ≤ stN x y (o - 2 ^ g : Nat) u q ↔ 0 ≤ stN x y o u q ∧ gpZ x y u q ≠ (g : Int) := by
  have hv := okm hk ho
  have hv' := okm hk (Nat.lt_of_le_of_lt (Nat.sub_le o (2 ^ g)) ho)
  obtain ⟨hle, hb0, hoo⟩ := bt_take hb
  rw [st_iff hv, st_iff hv']
  have hbt : ∀ g', bt (o - 2 ^ g) g' = if g' = g then 0 else bt o g' := fun g' => by
    split
    · rename_i e; rw [e]; exact hb0
    · rename_i e
      have := bt_add hb0 g'
      rw [hoo, if_neg e] at this
      omega
  refine ⟨fun ⟨g', e, h⟩ => ?_, fun ⟨⟨g', e, h⟩, hne⟩ => ⟨g', e, ?_⟩⟩
  · rw [hbt g'] at h
    split at h
    · omega
    · exact ⟨⟨g', e, h⟩, by omega⟩
  · rw [hbt g', if_neg (by rintro rfl; exact hne e)]; exact h

/-- A forest's arrivals of one part follow one another. -/
theorem orbit (hk : OkZ x y) : ∀ (f o : Nat), o < 2 ^ gN x y → pcN o (gN x y) ≤ f → lp x y o = 0 → ∀ s t : Nat × Nat, s.1 < cN x y → t.1 < cN x y → Ar (stN x y o) s → Ar (stN x y o) t → Cn x y o s.1 t.1 → ∃ k, it (mv (stN x y o)) k s = t
  | 0, o, ho, hf, hl, s, t, hsN, htN, hs, ht, hc => by
    exfalso
    have hv := okm hk ho
    obtain ⟨g, e, hb⟩ := (st_iff hv).1 hs.2
    have h1 := hs.2
    obtain ⟨v, hv'⟩ := Int.eq_ofNat_of_zero_le h1
    obtain ⟨g', -, hg', hb', -⟩ := step_gap2 hv hv'
    obtain ⟨hle, hb0, hoo⟩ := bt_take hb'
    have := pc_add hb0 hg'
    rw [hoo] at this
    omega
  | f + 1, o, ho, hf, hl, s, t, hsN, htN, hs, ht, hc => by
    have hv := okm hk ho
    -- a dead end
    have hend : ∃ c, c < cN x y ∧ dg x y o c = 1 := by
      rcases Nat.lt_or_ge (cnt (fun c => dg x y o c == 1) (cN x y)) 2 with h | h
      · exfalso
        have h0 := (no_ends hk ho hl (by omega)).2 s.1 hsN
        obtain ⟨v, hv'⟩ := Int.eq_ofNat_of_zero_le hs.2
        exact has_way (Nat.mod_lt _ (by decide)) hv' h0
      · obtain ⟨c, hc1, hc2⟩ := cnt_some (p := fun c => dg x y o c == 1) (n := cN x y) (by omega)
        exact ⟨c, hc1, by simpa using hc2⟩
    obtain ⟨c, hcN, hcd⟩ := hend
    obtain ⟨q, v, g, -, hq, hsv, hgp, hg, hb, ho', hpc, hl', hdz⟩ := fill_one hk ho hcN hcd
    have hl' := hl' hl
    have hvN : v < cN x y := stN_lt c q v hsv
    have hvc : v ≠ c := st_ne hsv
    have hback : stN x y o v ((q + 2) % 4) = (c : Int) := stN_back2 hsv
    have hq2 : (q + 2) % 4 < 4 := Nat.mod_lt _ (by decide)
    obtain ⟨g', eg', hg'N, hbg', hE'⟩ := step_gap2 hv hback
    obtain ⟨g'', eg'', hg''N, hbg'', hE⟩ := step_gap2 hv hsv
    have hgg : g'' = g := by omega
    subst hgg
    -- the gap of the way back is the same
    have hgback : gpZ x y v ((q + 2) % 4 : Nat) = (g'' : Int) := by
      have hn : ¬ nbZ x y c q < 0 := by
        intro h
        have := st_neg (w := x) (h := y) (o := o) (k := c) (d := q) h
        unfold stN at hsv; omega
      obtain ⟨b1, b2, b3, -⟩ := both x y c q hn
      have hnb : nbZ x y c q = v := by
        unfold stN stZ at hsv
        split at hsv
        · exact hsv
        · omega
      rw [hnb] at b3
      rw [← hgp, ← b3]
      congr 1
    -- which directions are left
    have hopl : ∀ u e : Nat, 0 ≤ stN x y (o - 2 ^ g'' : Nat) u e ↔ 0 ≤ stN x y o u e ∧ gpZ x y u e ≠ (g'' : Int) := fun u e => op_less hk ho hb
    have honly : ∀ e, e < 4 → 0 ≤ stN x y o c e → e = q := fun e he h => one_way (o := o) (c := c) (by omega) he hq h (by rw [hsv]; omega)
    have hc0 : ∀ e, e < 4 → ¬ 0 ≤ stN x y (o - 2 ^ g'' : Nat) c e := fun e he h => by
      obtain ⟨h1, h2⟩ := (hopl c e).1 h
      rw [honly e he h1] at h2
      exact h2 hgp
    have hvB : ∀ e, e < 4 → opB (stN x y (o - 2 ^ g'' : Nat)) v e = (opB (stN x y o) v e && e != (q + 2) % 4) := fun e he => by
      unfold opB
      rw [Bool.eq_iff_iff, decide_eq_true_iff, Bool.and_eq_true, decide_eq_true_iff, bne_iff_ne, hopl]
      refine and_congr_right fun h => ?_
      refine ⟨fun h1 h2 => h1 (by rw [h2]; exact hgback), fun h1 h2 => h1 (gap_uniq hk hvN hg he hq2 h2 hgback)⟩
    have hoB : ∀ u, u < cN x y → u ≠ c → u ≠ v → ∀ e, e < 4 → opB (stN x y (o - 2 ^ g'' : Nat)) u e = opB (stN x y o) u e := fun u hu h1 h2 e he => by
      unfold opB
      rw [decide_eq_decide, hopl]
      refine ⟨fun h => h.1, fun h => ⟨h, fun h3 => ?_⟩⟩
      have := gaps_of (c := u) hk hu hg
      rw [if_neg (by rcases hE with ⟨e1, e2⟩ | ⟨e1, e2⟩ <;> omega)] at this
      have h4 := cnt_pos (p := fun q => gpZ x y u (q : Nat) == (g'' : Int)) (n := 4) he (by simpa using h3)
      omega
    -- the two arrivals of the passage
    have hA : Ar (stN x y o) (c, (q + 2) % 4) := ⟨hq2, by rw [show ((q + 2) % 4 + 2) % 4 = q by omega, hsv]; omega⟩
    have hBr : Ar (stN x y o) (v, q) := ⟨hq, by show 0 ≤ stN x y o v ((q + 2) % 4); rw [hback]; omega⟩
    have hAB : mv (stN x y o) (c, (q + 2) % 4) = (v, q) := by
      have hn : nx (opB (stN x y o) c) (((q + 2) % 4 + 1) % 4) = q := nx_only hq (Nat.mod_lt _ (by decide)) (decide_eq_true (by rw [hsv]; omega)) fun e he h => honly e he (of_decide_eq_true h)
      unfold mv
      simp only
      rw [hn, hsv]; simp
    -- arrivals of the smaller forest
    have hsub : ∀ u : Nat × Nat, Ar (stN x y (o - 2 ^ g'' : Nat)) u → Ar (stN x y o) u ∧ u.1 ≠ c := fun u h => ⟨⟨h.1, ((hopl _ _).1 h.2).1⟩, fun e => hc0 _ (Nat.mod_lt _ (by decide)) (by rw [← e]; exact h.2)⟩
    have hsup : ∀ u : Nat × Nat, Ar (stN x y o) u → u ≠ (c, (q + 2) % 4) → u ≠ (v, q) → u.1 < cN x y → Ar (stN x y (o - 2 ^ g'' : Nat)) u ∧ u.1 ≠ c := fun u h h1 h2 hu => by
      have hne : gpZ x y u.1 ((u.2 + 2) % 4 : Nat) ≠ (g'' : Int) := fun h3 => by
        have := gaps_of (c := u.1) hk hu hg
        by_cases huc : u.1 = c
        · have h4 := honly _ (Nat.mod_lt _ (by decide)) (by rw [← huc]; exact h.2)
          have h5 := h.1
          exact h1 (Prod.ext huc (by show u.2 = _; omega))
        · by_cases huv : u.1 = v
          · have h4 := gap_uniq hk hvN hg (Nat.mod_lt _ (by decide)) hq2 (by rw [← huv]; exact h3) hgback
            have h5 := h.1
            exact h2 (Prod.ext huv (by show u.2 = _; omega))
          · rw [if_neg (by rcases hE with ⟨e1, e2⟩ | ⟨e1, e2⟩ <;> omega)] at this
            have h4 := cnt_pos (p := fun q => gpZ x y u.1 (q : Nat) == (g'' : Int)) (n := 4) (Nat.mod_lt _ (by decide)) (by rw [beq_iff_eq]; exact h3)
            omega
      have := (hopl _ _).2 ⟨h.2, hne⟩
      exact ⟨⟨h.1, this⟩, (hsub u ⟨h.1, this⟩).2⟩
    -- a step of the smaller forest
    have hval : ∀ u e : Nat, 0 ≤ stN x y (o - 2 ^ g'' : Nat) u e → stN x y (o - 2 ^ g'' : Nat) u e = stN x y o u e := fun u e h => by
      obtain ⟨k, hk'⟩ := Int.eq_ofNat_of_zero_le ((hopl u e).1 h).1
      rw [hk']; exact st_val hk' h
    have hmvN : ∀ u : Nat × Nat, Ar (stN x y (o - 2 ^ g'' : Nat)) u → (mv (stN x y (o - 2 ^ g'' : Nat)) u).1 < cN x y := fun u h => by
      obtain ⟨-, h1, -⟩ := mv_step h.1 (ar_way h)
      exact stN_lt _ _ _ h1
    have hstep : ∀ u : Nat × Nat, u.1 < cN x y → Ar (stN x y (o - 2 ^ g'' : Nat)) u → ∃ k, it (mv (stN x y o)) k u = mv (stN x y (o - 2 ^ g'' : Nat)) u := fun u hu h => by
      obtain ⟨h1, h2⟩ := hsub u h
      have hon := nx_on (opB (stN x y (o - 2 ^ g'' : Nat)) u.1) (e := (u.2 + 1) % 4) (Nat.mod_lt _ (by decide)) (Nat.mod_lt (u.2 + 2) (by decide)) (decide_eq_true h.2)
      have hvl := hval u.1 _ (of_decide_eq_true hon)
      have same : nx (opB (stN x y (o - 2 ^ g'' : Nat)) u.1) ((u.2 + 1) % 4) = nx (opB (stN x y o) u.1) ((u.2 + 1) % 4) → ∃ k, it (mv (stN x y o)) k u = mv (stN x y (o - 2 ^ g'' : Nat)) u := fun e => by
        refine ⟨1, ?_⟩
        show mv (stN x y o) u = _
        unfold mv
        rw [hvl, e]
      by_cases huv : u.1 = v
      · have hne := nx_less (p := opB (stN x y o) v) (p' := opB (stN x y (o - 2 ^ g'' : Nat)) v) (e := (u.2 + 1) % 4) (r := (q + 2) % 4) (s := (u.2 + 2) % 4) (Nat.mod_lt _ (by decide)) hq2 (Nat.mod_lt _ (by decide)) hvB (decide_eq_true (by rw [hback]; omega)) (decide_eq_true (by rw [← huv]; exact h.2))
        by_cases hr : nx (opB (stN x y o) v) ((u.2 + 1) % 4) = (q + 2) % 4
        · refine ⟨3, ?_⟩
          have e1 : mv (stN x y o) u = (c, (q + 2) % 4) := by
            unfold mv; rw [huv, hr, hback]; simp
          show mv (stN x y o) (mv (stN x y o) (mv (stN x y o) u)) = _
          rw [e1, hAB]
          unfold mv
          simp only
          rw [hvl, huv, hne.1 hr, show ((q + 2) % 4 + 3) % 4 = (q + 1) % 4 by omega]
        · exact same (by rw [huv]; exact hne.2.1 hr)
      · refine same ?_
        unfold nx
        have ho := hoB u.1 hu h2 huv
        rw [ho _ (Nat.mod_lt _ (by decide)), ho _ (Nat.mod_lt _ (by decide)), ho _ (Nat.mod_lt _ (by decide))]
    have hsteps : ∀ n (u : Nat × Nat), u.1 < cN x y → Ar (stN x y (o - 2 ^ g'' : Nat)) u → ∃ k, it (mv (stN x y o)) k u = it (mv (stN x y (o - 2 ^ g'' : Nat))) n u := by
      intro n
      induction n with
      | zero => intro u _ _; exact ⟨0, rfl⟩
      | succ n ih =>
        intro u hu h
        obtain ⟨k1, e1⟩ := hstep u hu h
        obtain ⟨k2, e2⟩ := ih _ (hmvN u h) (mv_ar h.1 (ar_way h))
        exact ⟨k1 + k2, by rw [it_add, e1, e2]; rfl⟩
    have hsame : ∀ u t : Nat × Nat, u.1 < cN x y → t.1 < cN x y → Ar (stN x y (o - 2 ^ g'' : Nat)) u → Ar (stN x y (o - 2 ^ g'' : Nat)) t → Cn x y o u.1 t.1 → ∃ k, it (mv (stN x y o)) k u = t := fun u t hu ht h1 h2 hcn => by
      have hcn' : Cn x y (o - 2 ^ g'' : Nat) u.1 t.1 := (cn_iff hu t.1).1 (by rw [hdz u.1 t.1 hu ht (hsub u h1).2 (hsub t h2).2]; exact (cn_iff hu t.1).2 hcn)
      obtain ⟨n, e⟩ := orbit hk f (o - 2 ^ g'') ho' (by omega) hl' u t hu ht h1 h2 hcn'
      obtain ⟨k, e'⟩ := hsteps n u hu h1
      exact ⟨k, by rw [e', e]⟩
    have hcv : Cn x y o c v := ⟨1, .step .zero hq hsv⟩
    by_cases hv0 : ∃ e, e < 4 ∧ e ≠ (q + 2) % 4 ∧ 0 ≤ stN x y o v e
    · obtain ⟨e0, he0, hne0, hse0⟩ := hv0
      have hpr : opB (stN x y o) v ((q + 2) % 4) = true := decide_eq_true (by rw [hback]; omega)
      -- what follows the passage
      have hT : ∃ k, ∃ u, it (mv (stN x y o)) k (v, q) = u ∧ u.1 < cN x y ∧ Ar (stN x y (o - 2 ^ g'' : Nat)) u ∧ Cn x y o v u.1 := by
        have hl := (nx_less (p := opB (stN x y o) v) (p' := fun k => opB (stN x y o) v k && k != (q + 2) % 4) (e := 0) (r := (q + 2) % 4) (s := e0) (by decide) hq2 he0 (fun _ _ => rfl) hpr (by simp [hne0]; exact decide_eq_true hse0)).2.2
        obtain ⟨m1, m2, m3⟩ := mv_step hBr.1 (ar_way hBr)
        have m4 := mv_ar hBr.1 (ar_way hBr)
        have hN : (mv (stN x y o) (v, q)).1 < cN x y := stN_lt _ _ _ m2
        have h2' : (mv (stN x y o) (v, q)).2 ≠ (q + 2) % 4 := by
          unfold mv; simp only
          rw [show ((q + 2) % 4 + 3) % 4 = (q + 1) % 4 by omega] at hl; exact hl
        have hnA : mv (stN x y o) (v, q) ≠ (c, (q + 2) % 4) := fun e => h2' (congrArg Prod.snd e)
        have hnB : mv (stN x y o) (v, q) ≠ (v, q) := fun e => by
          rw [e] at m2
          exact st_ne (show stN x y o v q = ((v : Nat) : Int) from m2) rfl
        exact ⟨1, _, rfl, hN, (hsup _ m4 hnA hnB hN).1, mv_cn hBr⟩
      obtain ⟨kT, uT, eT, hTN, hTA, hTc⟩ := hT
      -- what comes ahead of it
      have hS : ∃ k, ∃ u, it (mv (stN x y o)) k u = (c, (q + 2) % 4) ∧ u.1 < cN x y ∧ Ar (stN x y (o - 2 ^ g'' : Nat)) u ∧ u.1 = v := by
        obtain ⟨e, he, hne, hpe, hnx⟩ := nx_prev hq2 he0 hpr hne0 (decide_eq_true hse0)
        have hAr : Ar (stN x y o) (v, (e + 2) % 4) := ⟨Nat.mod_lt _ (by decide), by show 0 ≤ stN x y o v (((e + 2) % 4 + 2) % 4); rw [show ((e + 2) % 4 + 2) % 4 = e by omega]; exact of_decide_eq_true hpe⟩
        have hmv : mv (stN x y o) (v, (e + 2) % 4) = (c, (q + 2) % 4) := by
          unfold mv; simp only
          rw [show ((e + 2) % 4 + 1) % 4 = (e + 3) % 4 by omega, hnx, hback]; simp
        have hnA : ((v, (e + 2) % 4) : Nat × Nat) ≠ (c, (q + 2) % 4) := fun h => hvc (congrArg Prod.fst h)
        have hnB : ((v, (e + 2) % 4) : Nat × Nat) ≠ (v, q) := fun h => by
          have := congrArg Prod.snd h
          simp only at this
          exact hne (by omega)
        exact ⟨1, _, hmv, hvN, (hsup _ hAr hnA hnB hvN).1, rfl⟩
      obtain ⟨kS, uS, eS, hSN, hSA, hSv⟩ := hS
      have from_s : ∃ k u, it (mv (stN x y o)) k s = u ∧ u.1 < cN x y ∧ Ar (stN x y (o - 2 ^ g'' : Nat)) u ∧ Cn x y o s.1 u.1 := by
        by_cases h1 : s = (c, (q + 2) % 4)
        · refine ⟨1 + kT, uT, ?_, hTN, hTA, ?_⟩
          · rw [it_add, h1]; show it _ kT (mv (stN x y o) (c, (q + 2) % 4)) = _; rw [hAB, eT]
          · rw [h1]; exact cn_trans hcv hTc
        · by_cases h2 : s = (v, q)
          · exact ⟨kT, uT, by rw [h2, eT], hTN, hTA, by rw [h2]; exact hTc⟩
          · exact ⟨0, s, rfl, hsN, (hsup s hs h1 h2 hsN).1, cn_refl _ _⟩
      have to_t : ∃ k u, it (mv (stN x y o)) k u = t ∧ u.1 < cN x y ∧ Ar (stN x y (o - 2 ^ g'' : Nat)) u ∧ Cn x y o u.1 t.1 := by
        by_cases h1 : t = (c, (q + 2) % 4)
        · exact ⟨kS, uS, by rw [h1, eS], hSN, hSA, by rw [h1, hSv]; exact cn_symm hcv⟩
        · by_cases h2 : t = (v, q)
          · refine ⟨kS + 1, uS, ?_, hSN, hSA, by rw [h2, hSv]; exact cn_refl _ _⟩
            rw [it_add, eS, h2]; exact hAB
          · exact ⟨0, t, rfl, htN, (hsup t ht h1 h2 htN).1, cn_refl _ _⟩
      obtain ⟨k1, u1, e1, n1, a1, c1⟩ := from_s
      obtain ⟨k3, u3, e3, n3, a3, c3⟩ := to_t
      obtain ⟨k2, e2⟩ := hsame u1 u3 n1 n3 a1 a3 (cn_trans (cn_symm c1) (cn_trans hc (cn_symm c3)))
      exact ⟨k1 + k2 + k3, by rw [it_add, it_add, e1, e2, e3]⟩
    · -- the passage is a part of its own
      have hvo : ∀ e, e < 4 → 0 ≤ stN x y o v e → e = (q + 2) % 4 := fun e he h => Classical.byContradiction fun hne => hv0 ⟨e, he, hne, h⟩
      have hBA : mv (stN x y o) (v, q) = (c, (q + 2) % 4) := by
        have hn : nx (opB (stN x y o) v) ((q + 1) % 4) = (q + 2) % 4 := nx_only hq2 (Nat.mod_lt _ (by decide)) (decide_eq_true (by rw [hback]; omega)) fun e he h => hvo e he (of_decide_eq_true h)
        unfold mv; simp only
        rw [hn, hback]; simp
      have hin : ∀ u : Nat × Nat, Ar (stN x y o) u → (u.1 = c ∨ u.1 = v) → u = (c, (q + 2) % 4) ∨ u = (v, q) := fun u h hu => by
        have h5 := h.1
        rcases hu with e | e
        · have h4 := honly _ (Nat.mod_lt _ (by decide)) (by rw [← e]; exact h.2)
          exact .inl (Prod.ext e (by show u.2 = _; omega))
        · have h4 := hvo _ (Nat.mod_lt _ (by decide)) (by rw [← e]; exact h.2)
          exact .inr (Prod.ext e (by show u.2 = _; omega))
      have hwk : ∀ {n a u : Nat}, (a = c ∨ a = v) → Wk (stN x y o) a n u → u = c ∨ u = v := fun ha h => by
        induction h with
        | zero => exact ha
        | step h hq' hs' ih =>
          rcases ih with e | e
          · subst e
            have := honly _ hq' (by rw [hs']; omega)
            rw [this, hsv] at hs'; right; omega
          · subst e
            have := hvo _ hq' (by rw [hs']; omega)
            rw [this, hback] at hs'; left; omega
      by_cases hsc : s.1 = c ∨ s.1 = v
      · obtain ⟨n, hw⟩ := hc
        have htc := hwk hsc hw
        rcases hin s hs hsc with e | e <;> rcases hin t ht htc with e' | e'
        · exact ⟨0, by rw [e, e']; rfl⟩
        · exact ⟨1, by rw [e, e']; exact hAB⟩
        · exact ⟨1, by rw [e, e']; exact hBA⟩
        · exact ⟨0, by rw [e, e']; rfl⟩
      · have htc : ¬ (t.1 = c ∨ t.1 = v) := fun h => by
          obtain ⟨n, hw⟩ := cn_symm hc
          exact hsc (hwk h hw)
        refine hsame s t hsN htN (hsup s hs ?_ ?_ hsN).1 (hsup t ht ?_ ?_ htN).1 hc
        · exact fun e => hsc (.inl (congrArg Prod.fst e))
        · exact fun e => hsc (.inr (congrArg Prod.fst e))
        · exact fun e => htc (.inl (congrArg Prod.fst e))
        · exact fun e => htc (.inr (congrArg Prod.fst e))
end
end Go.Proofs.Ythfcemihaoijgaa.handP

/- What the functions on the right hand answer, and what their law asks. -/
namespace Go.Proofs.Ythfcemihaoijgaa.handQ
open gridP gridQ bitP mazeP mazeQ reachP reachM reachN reachD forest deadP deadQ deadR handP
set_option linter.unusedVariables false

theorem least_ex {P : Nat → Prop} : ∀ n, P n → ∃ m, P m ∧ ∀ j, j < m → ¬ P j := by
  intro n
  induction n using Nat.strongRecOn with
  | ind n ih =>
    intro h
    by_cases h' : ∃ j, j < n ∧ P j
    · obtain ⟨j, hj, hp⟩ := h'
      exact ih j hj hp
    · exact ⟨n, h, fun j hj hp => h' ⟨j, hj, hp⟩⟩

section
variable {x y : Int}
/-- All cells of a perfect maze are connected. -/
theorem perf_cn {o a b : Nat} (hp : pt x y o = 1) (ha : a < cN x y) (hb : b < cN x y) : Cn x y o a b := by
  obtain ⟨l, h1, h2, h3, -⟩ := least_of (x := x) (y := y) (o := o) ha
  obtain ⟨l', h1', h2', h3', -⟩ := least_of (x := x) (y := y) (o := o) hb
  have hone : cnt (isLeast (stN x y o) (cN x y)) (cN x y) ≤ 1 := by
    have : pt x y o = cnt (isLeast (stN x y o) (cN x y)) (cN x y) := by unfold pt; exact cp_cnt _ _ _
    omega
  have := cnt_one hone (show l < cN x y by omega) (show l' < cN x y by omega) h3 h3'
  subst this
  exact cn_trans h2 (cn_symm h2')
/-- The arrivals, as numbers. -/
def arB (st : Nat → Nat → Int) (u : Nat) : Bool := decide (0 ≤ st (u / 4) ((u % 4 + 2) % 4))
theorem ar_cnt (o : Nat) : ∀ n, cnt (arB (stN x y o)) (4 * n) = smN (dg x y o) n
  | 0 => rfl
  | n + 1 => by
    rw [show 4 * (n + 1) = 4 * n + 1 + 1 + 1 + 1 by omega]
    unfold smN
    rw [← ar_cnt o n]
    have e0 : arB (stN x y o) (4 * n) = decide (0 ≤ stN x y o n 2) := by unfold arB; rw [show 4 * n / 4 = n by omega, show (4 * n % 4 + 2) % 4 = 2 by omega]
    have e1 : arB (stN x y o) (4 * n + 1) = decide (0 ≤ stN x y o n 3) := by unfold arB; rw [show (4 * n + 1) / 4 = n by omega, show ((4 * n + 1) % 4 + 2) % 4 = 3 by omega]
    have e2 : arB (stN x y o) (4 * n + 1 + 1) = decide (0 ≤ stN x y o n 0) := by unfold arB; rw [show (4 * n + 1 + 1) / 4 = n by omega, show ((4 * n + 1 + 1) % 4 + 2) % 4 = 0 by omega]
    have e3 : arB (stN x y o) (4 * n + 1 + 1 + 1) = decide (0 ≤ stN x y o n 1) := by unfold arB; rw [show (4 * n + 1 + 1 + 1) / 4 = n by omega, show ((4 * n + 1 + 1 + 1) % 4 + 2) % 4 = 1 by omega]
    have hd : dg x y o n = (if decide (0 ≤ stN x y o n 0) = true then 1 else 0) + (if decide (0 ≤ stN x y o n 1) = true then 1 else 0) + (if decide (0 ≤ stN x y o n 2) = true then 1 else 0) + (if decide (0 ≤ stN x y o n 3) = true then 1 else 0) := by
      unfold dg; simp only [cnt]; omega
    rw [hd]
    simp only [cnt, e0, e1, e2, e3]
    omega
theorem it_inj {o : Nat} {s : Nat × Nat} (h : Ar (stN x y o) s) : ∀ i j, i ≤ j → it (mv (stN x y o)) i s = it (mv (stN x y o)) j s → it (mv (stN x y o)) (j - i) s = s
  | 0, j, _, e => by rw [Nat.sub_zero]; exact e.symm
  | i + 1, j, hij, e => by
    obtain ⟨j', rfl⟩ : ∃ j', j = j' + 1 := ⟨j - 1, by omega⟩
    rw [it_succ, it_succ] at e
    have := it_inj h i j' (by omega) (mv_inj (it_ar h i) (it_ar h j') e)
    rw [show j' + 1 - (i + 1) = j' - i by omega]; exact this
theorem it_back (f : Nat × Nat → Nat × Nat) {p : Nat} {s : Nat × Nat} (h : it f p s = s) : ∀ m, it f (p * m) s = s
  | 0 => rfl
  | m + 1 => by rw [Nat.mul_succ, it_add, it_back f h m, h]
theorem it_mod (f : Nat × Nat → Nat × Nat) {p : Nat} {s : Nat × Nat} (h : it f p s = s) (k : Nat) : it f (k % p) s = it f k s := by
  conv => rhs; rw [← Nat.div_add_mod k p, it_add, it_back f h]
theorem it_cell {o : Nat} {s : Nat × Nat} (hs : s.1 < cN x y) (h : Ar (stN x y o) s) : ∀ k, (it (mv (stN x y o)) k s).1 < cN x y
  | 0 => hs
  | k + 1 => by
    rw [it_succ]
    obtain ⟨-, h1, -⟩ := mv_step (it_ar h k).1 (ar_way (it_ar h k))
    exact stN_lt _ _ _ h1
/-- In a perfect maze, a walker is back after twice the passages, not earlier, and has been everywhere. -/
theorem round {o : Nat} (hk : OkZ x y) (ho : o < 2 ^ gN x y) (hl : lp x y o = 0) (hp : pt x y o = 1) (hN : 2 ≤ cN x y) {s : Nat × Nat} (hs : s.1 < cN x y) (h : Ar (stN x y o) s) :
    it (mv (stN x y o)) (2 * (cN x y - 1)) s = s ∧ (∀ k, 0 < k → k < 2 * (cN x y - 1) → it (mv (stN x y o)) k s ≠ s) ∧ ∀ u, u < cN x y → ∃ k, k < 2 * (cN x y - 1) ∧ (it (mv (stN x y o)) k s).1 = u := by
  have hall : ∀ t : Nat × Nat, t.1 < cN x y → Ar (stN x y o) t → ∀ u : Nat × Nat, u.1 < cN x y → Ar (stN x y o) u → ∃ k, it (mv (stN x y o)) k u = t := fun t ht hta u hu hua =>
    orbit hk (pcN o (gN x y)) o ho (Nat.le_refl _) hl u t hu ht hua hta (perf_cn hp hu ht)
  have hm := mv_ar h.1 (ar_way h)
  have hmN : (mv (stN x y o) s).1 < cN x y := it_cell hs h 1
  obtain ⟨k0, e0⟩ := hall s hs h _ hmN hm
  obtain ⟨p', hp', hmin⟩ := least_ex (P := fun n => it (mv (stN x y o)) (n + 1) s = s) k0 e0
  have hcov : ∀ t : Nat × Nat, t.1 < cN x y → Ar (stN x y o) t → ∃ k, k < p' + 1 ∧ it (mv (stN x y o)) k s = t := fun t ht hta => by
    obtain ⟨k, e⟩ := hall t ht hta s hs h
    exact ⟨k % (p' + 1), Nat.mod_lt _ (by omega), by rw [it_mod _ hp' k]; exact e⟩
  have hdist : ∀ i j, i < p' + 1 → j < p' + 1 → it (mv (stN x y o)) i s = it (mv (stN x y o)) j s → i = j := fun i j hi hj e => by
    rcases Nat.lt_trichotomy i j with hlt | he | hlt
    · have := it_inj h i j (by omega) e
      obtain ⟨d, hd⟩ : ∃ d, j - i = d + 1 := ⟨j - i - 1, by omega⟩
      rw [hd] at this
      exact absurd this (hmin d (by omega))
    · exact he
    · have := it_inj h j i (by omega) e.symm
      obtain ⟨d, hd⟩ : ∃ d, i - j = d + 1 := ⟨i - j - 1, by omega⟩
      rw [hd] at this
      exact absurd this (hmin d (by omega))
  have hcnt : cnt (arB (stN x y o)) (4 * cN x y) = p' + 1 := by
    refine cnt_img (fun i => 4 * (it (mv (stN x y o)) i s).1 + (it (mv (stN x y o)) i s).2) (fun u hu => ⟨fun hb => ?_, fun ⟨i, hi, e⟩ => ?_⟩) (fun i j hi hj e => ?_) (fun i hi => ?_)
    · obtain ⟨k, hk', e⟩ := hcov (u / 4, u % 4) (by show u / 4 < _; omega) ⟨Nat.mod_lt _ (by decide), of_decide_eq_true hb⟩
      exact ⟨k, hk', by simp only [e]; omega⟩
    · have ha := it_ar h i
      have h2 := ha.1
      subst e
      unfold arB
      rw [show (4 * (it (mv (stN x y o)) i s).1 + (it (mv (stN x y o)) i s).2) / 4 = (it (mv (stN x y o)) i s).1 by omega, show (4 * (it (mv (stN x y o)) i s).1 + (it (mv (stN x y o)) i s).2) % 4 = (it (mv (stN x y o)) i s).2 by omega]
      exact decide_eq_true ha.2
    · have hi2 := (it_ar h i).1
      have hj2 := (it_ar h j).1
      exact hdist i j hi hj (Prod.ext (by omega) (by omega))
    · have hi2 := (it_ar h i).1
      have := it_cell hs h i
      omega
  have hpN : p' + 1 = 2 * (cN x y - 1) := by
    rw [ar_cnt, dg_sum hk ho] at hcnt
    unfold lp at hl
    omega
  refine ⟨by rw [← hpN]; exact hp', fun k h0 h1 e => ?_, fun u hu => ?_⟩
  · obtain ⟨d, rfl⟩ : ∃ d, k = d + 1 := ⟨k - 1, by omega⟩
    exact hmin d (by omega) e
  · -- a cell has a passage
    obtain ⟨w, hw, hne⟩ : ∃ w, w < cN x y ∧ w ≠ u := by
      by_cases hu0 : u = 0
      · exact ⟨1, by omega, by omega⟩
      · exact ⟨0, by omega, by omega⟩
    have hway : ∃ q, q < 4 ∧ 0 ≤ stN x y o u q := by
      obtain ⟨n, hwk⟩ := perf_cn hp hw hu
      cases hwk with
      | zero => exact absurd rfl hne
      | step h' hq' hs' => exact ⟨_, Nat.mod_lt _ (by decide), by rw [stN_back2 hs']; omega⟩
    obtain ⟨q, hq, h0⟩ := hway
    obtain ⟨k, hk', e⟩ := hcov (u, (q + 2) % 4) hu ⟨Nat.mod_lt _ (by decide), by show 0 ≤ stN x y o u (((q + 2) % 4 + 2) % 4); rw [show ((q + 2) % 4 + 2) % 4 = q by omega]; exact h0⟩
    exact ⟨k, by omega, by rw [e]⟩
theorem perf_way {o u : Nat} (hp : pt x y o = 1) (hN : 2 ≤ cN x y) (hu : u < cN x y) : ∃ q, q < 4 ∧ 0 ≤ stN x y o u q := by
  obtain ⟨w, hw, hne⟩ : ∃ w, w < cN x y ∧ w ≠ u := by
    by_cases hu0 : u = 0
    · exact ⟨1, by omega, by omega⟩
    · exact ⟨0, by omega, by omega⟩
  obtain ⟨n, hwk⟩ := perf_cn hp hw hu
  cases hwk with
  | zero => exact absurd rfl hne
  | step h' hq' hs' => exact ⟨_, Nat.mod_lt _ (by decide), by rw [stN_back2 hs']; omega⟩
end

/-! ### the functions' answers -/
/-- One move of a walker. -/
def hsP (st : Nat → Nat → Int) (s : Nat × Nat) : Nat × Nat := if opB st s.1 (nx (opB st s.1) ((s.2 + 1) % 4)) = true then mv st s else (s.1, (s.2 + 2) % 4)
def waB (x y z c f : Int) : Bool := hasB x y z c && decide (0 ≤ f ∧ f ≤ 3)
/-- The walker after k moves. -/
def hkN (x y z c f : Int) (k : Nat) : Nat × Nat := it (hsP (stN x y z)) k (c.toNat, f.toNat)
def hsC (x y z c f : Int) : Int := if waB x y z c f = true then ((hkN x y z c f 1).1 : Int) else c
def hsF (x y z c f : Int) : Int := if waB x y z c f = true then ((hkN x y z c f 1).2 : Int) else f
/-- The walker and the walker after each of n moves. -/
def hwL (x y z c f n : Int) : List (Nat × Nat) := if waB x y z c f = true ∧ 0 ≤ n ∧ n ≤ 200 then (List.range (n.toNat + 1)).map (hkN x y z c f) else []
def hcZ (x y z c f : Int) : Int := if waB x y z c f = true then (((List.range 200).find? fun k => hkN x y z c f (k + 1) == hkN x y z c f 0).map fun k => (k : Int) + 1).getD 0 else 0
def hrB (x y z c f g : Int) : Bool := (hwL x y z c f 200).any fun s => (s.1 : Int) == g
def cvB (x y z c f : Int) (k : Nat) : Bool := hrB x y z c f k
def cvL (x y z c f : Int) : List Int := clN (cvB x y z c f) (if OkZ x y then cN x y else 0)

theorem hc_is {x y z c f : Int} {k : Nat} (hw : waB x y z c f = true) (hk : k < 200) (h : hkN x y z c f (k + 1) = hkN x y z c f 0) (hm : ∀ j, j < k → hkN x y z c f (j + 1) ≠ hkN x y z c f 0) : hcZ x y z c f = (k : Int) + 1 := by
  unfold hcZ
  rw [if_pos hw]
  have : (List.range 200).find? (fun k => hkN x y z c f (k + 1) == hkN x y z c f 0) = some k := by
    rw [List.find?_range_eq_some]
    refine ⟨by simpa using h, by simpa using hk, fun j hj => ?_⟩
    simpa using hm j hj
  rw [this]; rfl
theorem hc_none {x y z c f : Int} (h : ∀ j, j < 200 → hkN x y z c f (j + 1) ≠ hkN x y z c f 0) : hcZ x y z c f = 0 := by
  unfold hcZ
  split
  · have : (List.range 200).find? (fun k => hkN x y z c f (k + 1) == hkN x y z c f 0) = none := by
      rw [List.find?_eq_none]
      intro k hk
      have := h k (List.mem_range.1 hk)
      simpa using this
    rw [this]; rfl
  · rfl

section
variable {x y : Int}
theorem hs_way {o : Nat} {s : Nat × Nat} (hw : ∃ q, q < 4 ∧ 0 ≤ stN x y o s.1 q) : hsP (stN x y o) s = mv (stN x y o) s := by
  obtain ⟨q, hq, h0⟩ := hw
  unfold hsP
  rw [if_pos (nx_on _ (Nat.mod_lt _ (by decide)) hq (decide_eq_true h0))]
theorem hs_none {o : Nat} {s : Nat × Nat} (hw : ∀ q, q < 4 → ¬ 0 ≤ stN x y o s.1 q) : hsP (stN x y o) s = (s.1, (s.2 + 2) % 4) := by
  unfold hsP
  rw [if_neg]
  intro h
  exact hw _ (nx_lt _ (Nat.mod_lt _ (by decide))) (of_decide_eq_true h)
theorem it_hs {o : Nat} {s : Nat × Nat} (h : Ar (stN x y o) s) : ∀ k, it (hsP (stN x y o)) k s = it (mv (stN x y o)) k s
  | 0 => rfl
  | k + 1 => by rw [it_succ, it_succ, it_hs h k, hs_way (ar_way (it_ar h k))]
/-- What the law of hands asks, in a maze of several cells. -/
theorem hands {o c f : Nat} (hk : OkZ x y) (ho : o < 2 ^ gN x y) (hl : lp x y o = 0) (hp : pt x y o = 1) (hN : 2 ≤ cN x y) (hc : c < cN x y) (hf : f < 4) :
    hcZ x y o (hsC x y o c f) (hsF x y o c f) = 2 * ((cN x y : Int) - 1) ∧ (∀ g, g < cN x y → hrB x y o c f g = true) ∧ (cvL x y o c f).length = cN x y ∧ (hwL x y o c f 5).length = 6 := by
  have hv := okm hk ho
  have hNN := (nn3 hk).1
  have hN16 := (nn3 hk).2.2
  have hwk : ∀ {c f : Nat}, c < cN x y → f < 4 → waB x y o c f = true := fun hc hf => by
    unfold waB hasB
    rw [decide_eq_true ⟨hv, by omega, by omega⟩, decide_eq_true ⟨by omega, by omega⟩]; rfl
  have hway := perf_way hp hN hc
  have h1 : hkN x y o c f 1 = mv (stN x y o) (c, f) := by
    show hsP (stN x y o) ((c : Int).toNat, (f : Int).toNat) = _
    rw [Int.toNat_natCast, Int.toNat_natCast]
    exact hs_way (s := (c, f)) hway
  have hAr : Ar (stN x y o) (mv (stN x y o) (c, f)) := mv_ar (s := (c, f)) hf hway
  have hM : (mv (stN x y o) (c, f)).1 < cN x y := by
    obtain ⟨-, h2, -⟩ := mv_step (o := o) (s := (c, f)) hf hway
    exact stN_lt _ _ _ h2
  obtain ⟨r1, r2, r3⟩ := round hk ho hl hp hN hM hAr
  have hreach : ∀ g, g < cN x y → hrB x y o c f g = true := fun g hg => by
    obtain ⟨k, hk', e⟩ := r3 g hg
    unfold hrB hwL
    rw [if_pos ⟨hwk hc hf, by omega, by omega⟩, List.any_eq_true]
    refine ⟨hkN x y o c f (k + 1), List.mem_map.2 ⟨k + 1, List.mem_range.2 (by show k + 1 < 201; omega), rfl⟩, ?_⟩
    have : hkN x y o c f (k + 1) = it (mv (stN x y o)) k (mv (stN x y o) (c, f)) := by
      rw [← it_hs hAr, ← h1]; rfl
    rw [this, e]; simp
  refine ⟨?_, hreach, ?_, ?_⟩
  · have e1 : hsC x y o c f = ((mv (stN x y o) (c, f)).1 : Int) := by unfold hsC; rw [if_pos (hwk hc hf), h1]
    have e2 : hsF x y o c f = ((mv (stN x y o) (c, f)).2 : Int) := by unfold hsF; rw [if_pos (hwk hc hf), h1]
    rw [e1, e2]
    have hk0 : ∀ k, hkN x y o ((mv (stN x y o) (c, f)).1 : Int) ((mv (stN x y o) (c, f)).2 : Int) k = it (mv (stN x y o)) k (mv (stN x y o) (c, f)) := fun k => by
      unfold hkN
      rw [Int.toNat_natCast, Int.toNat_natCast]
      exact it_hs hAr k
    obtain ⟨p, hpp⟩ : ∃ p, 2 * (cN x y - 1) = p + 1 := ⟨2 * (cN x y - 1) - 1, by omega⟩
    rw [hc_is (k := p) (hwk hM hAr.1) (by omega) (by rw [hk0, hk0, ← hpp]; exact r1) fun j hj => by rw [hk0, hk0]; exact r2 (j + 1) (by omega) (by omega)]
    omega
  · unfold cvL
    rw [if_pos hk, clN_len, cnt_all]
    exact fun k hk' => hreach k hk'
  · unfold hwL
    rw [if_pos ⟨hwk hc hf, by omega, by omega⟩, List.length_map, List.length_range]; rfl
/-- .. in a maze of one cell. -/
theorem hands_one {o c f : Nat} (hk : OkZ x y) (ho : o < 2 ^ gN x y) (hN : cN x y = 1) (hc : c < cN x y) (hf : f < 4) : hcZ x y o c f = 2 ∧ hsC x y o c f = (c : Int) := by
  have hv := okm hk ho
  have hNN := (nn3 hk).1
  have hw : waB x y o c f = true := by
    unfold waB hasB
    rw [decide_eq_true ⟨hv, by omega, by omega⟩, decide_eq_true ⟨by omega, by omega⟩]; rfl
  have hno : ∀ u, u < cN x y → ∀ q, q < 4 → ¬ 0 ≤ stN x y o u q := fun u hu q hq h => by
    obtain ⟨v, hv'⟩ := Int.eq_ofNat_of_zero_le h
    have h1 := stN_lt _ _ _ hv'
    have h2 := st_ne hv'
    omega
  have h1 : hsP (stN x y o) (c, f) = (c, (f + 2) % 4) := hs_none (s := (c, f)) (hno c hc)
  have h2 : hsP (stN x y o) (c, (f + 2) % 4) = (c, f) := by
    rw [hs_none (s := (c, (f + 2) % 4)) (hno c hc)]
    exact Prod.ext rfl (by show ((f + 2) % 4 + 2) % 4 = f; omega)
  have e0 : hkN x y o c f 0 = (c, f) := by unfold hkN; rw [Int.toNat_natCast, Int.toNat_natCast]; rfl
  have e1 : hkN x y o c f 1 = (c, (f + 2) % 4) := by
    unfold hkN; rw [Int.toNat_natCast, Int.toNat_natCast]; exact h1
  have e2 : hkN x y o c f 2 = (c, f) := by
    unfold hkN; rw [Int.toNat_natCast, Int.toNat_natCast]
    show hsP _ (hsP _ (c, f)) = _
    rw [h1, h2]
  refine ⟨?_, ?_⟩
  · rw [hc_is (k := 1) hw (by decide) (by rw [e2, e0]) fun j hj => by
      obtain rfl : j = 0 := by omega
      rw [e1, e0]
      intro h
      have := congrArg Prod.snd h
      simp only at this
      omega]
    rfl
  · unfold hsC; rw [if_pos hw, e1]
end

/-- The walkers of a walk, as integers. -/
def iwP (s : Nat × Nat) : Int × Int := ((s.1 : Int), (s.2 : Int))
def hwI (x y z c f n : Int) : List (Int × Int) := (hwL x y z c f n).map iwP
theorem hs_ok {x y z : Int} {s : Nat × Nat} (hs : s.1 < cN x y) (h2 : s.2 < 4) : (hsP (stN x y z) s).1 < cN x y ∧ (hsP (stN x y z) s).2 < 4 := by
  unfold hsP
  split
  · rename_i h
    have h0 := of_decide_eq_true h
    have hl := nx_lt (opB (stN x y z) s.1) (e := (s.2 + 1) % 4) (Nat.mod_lt _ (by decide))
    refine ⟨?_, hl⟩
    unfold mv
    simp only
    exact stN_lt _ _ _ (by rw [Int.toNat_of_nonneg h0])
  · exact ⟨hs, Nat.mod_lt _ (by decide)⟩
theorem wa_iff {x y z : Int} (hv : OkM x y z) {c f : Nat} : waB x y z c f = true ↔ c < cN x y ∧ f < 4 := by
  have hNN := (nn3 hv.1).1
  unfold waB hasB
  rw [Bool.and_eq_true, decide_eq_true_iff, decide_eq_true_iff]
  refine ⟨fun ⟨⟨_, a, b⟩, c', d⟩ => ⟨by omega, by omega⟩, fun ⟨a, b⟩ => ⟨⟨hv, by omega, by omega⟩, by omega, by omega⟩⟩
theorem wa_form {x y z c f : Int} (h : waB x y z c f = true) : OkM x y z ∧ ∃ c' f' : Nat, c = c' ∧ f = f' ∧ c' < cN x y ∧ f' < 4 := by
  have h' := h
  unfold waB at h
  rw [Bool.and_eq_true] at h
  obtain ⟨h1, h2⟩ := h
  have h3 := of_decide_eq_true h1
  have h4 := of_decide_eq_true h2
  obtain ⟨hv, h5, h6⟩ := h3
  refine ⟨hv, c.toNat, f.toNat, by omega, by omega, ?_⟩
  have := (wa_iff hv (c := c.toNat) (f := f.toNat)).1 (by rw [show ((c.toNat : Nat) : Int) = c by omega, show ((f.toNat : Nat) : Int) = f by omega]; exact h')
  exact this
/-- A walk goes on by a step. -/
theorem hk_step {x y z c f : Int} (h : waB x y z c f = true) (k : Nat) : waB x y z (hkN x y z c f k).1 (hkN x y z c f k).2 = true ∧
    hsC x y z (hkN x y z c f k).1 (hkN x y z c f k).2 = ((hkN x y z c f (k + 1)).1 : Int) ∧ hsF x y z (hkN x y z c f k).1 (hkN x y z c f k).2 = ((hkN x y z c f (k + 1)).2 : Int) := by
  obtain ⟨hv, c', f', rfl, rfl, hc, hf⟩ := wa_form h
  have hok : ∀ k, (hkN x y z c' f' k).1 < cN x y ∧ (hkN x y z c' f' k).2 < 4 := fun k => by
    induction k with
    | zero => unfold hkN; rw [Int.toNat_natCast, Int.toNat_natCast]; exact ⟨hc, hf⟩
    | succ k ih =>
      have e : hkN x y z c' f' (k + 1) = hsP (stN x y z) (hkN x y z c' f' k) := it_succ _ _ _
      rw [e]; exact hs_ok ih.1 ih.2
  have hw := (wa_iff hv).2 (hok k)
  have e : hkN x y z c' f' (k + 1) = hsP (stN x y z) (hkN x y z c' f' k) := it_succ _ _ _
  have e1 : hkN x y z (hkN x y z c' f' k).1 (hkN x y z c' f' k).2 1 = hsP (stN x y z) (hkN x y z c' f' k) := by
    unfold hkN
    rw [Int.toNat_natCast, Int.toNat_natCast]; rfl
  refine ⟨hw, ?_, ?_⟩
  · unfold hsC; rw [if_pos hw, e1, e]
  · unfold hsF; rw [if_pos hw, e1, e]
theorem hk_zero {x y z c f : Int} (h : waB x y z c f = true) : c = ((hkN x y z c f 0).1 : Int) ∧ f = ((hkN x y z c f 0).2 : Int) := by
  obtain ⟨hv, c', f', rfl, rfl, hc, hf⟩ := wa_form h
  unfold hkN; rw [Int.toNat_natCast, Int.toNat_natCast]; exact ⟨rfl, rfl⟩
/-- A walk of k steps. -/
def hpI (x y z c f : Int) (k : Nat) : List (Int × Int) := (List.range (k + 1)).map fun j => iwP (hkN x y z c f j)
theorem hp_succ (x y z c f : Int) (k : Nat) : hpI x y z c f (k + 1) = hpI x y z c f k ++ [iwP (hkN x y z c f (k + 1))] := by
  unfold hpI; rw [List.range_succ, List.map_append]; rfl
theorem hp_len (x y z c f : Int) (k : Nat) : (hpI x y z c f k).length = k + 1 := by unfold hpI; rw [List.length_map, List.length_range]
theorem hp_zero {x y z c f : Int} (h : waB x y z c f = true) : hpI x y z c f 0 = [(c, f)] := by
  obtain ⟨e1, e2⟩ := hk_zero h
  unfold hpI iwP
  simp only [List.range_succ, List.range_zero, List.nil_append, List.map_cons, List.map_nil]
  rw [← e1, ← e2]
theorem hp_at (x y z c f : Int) {k j : Nat} (h : j ≤ k) : (hpI x y z c f k)[j]? = some (iwP (hkN x y z c f j)) := by
  unfold hpI; rw [List.getElem?_map, List.getElem?_range (by omega)]; rfl
theorem hw_yes {x y z c f n : Int} (h : waB x y z c f = true) (h0 : 0 ≤ n) (h1 : n ≤ 200) : hwI x y z c f n = hpI x y z c f n.toNat := by
  unfold hwI hwL hpI
  rw [if_pos ⟨h, h0, h1⟩, List.map_map]; rfl
theorem hw_no {x y z c f n : Int} (h : ¬ (waB x y z c f = true ∧ 0 ≤ n ∧ n ≤ 200)) : hwI x y z c f n = [] := by
  unfold hwI hwL; rw [if_neg h]; rfl
theorem hr_any (x y z c f g : Int) : hrB x y z c f g = (hwI x y z c f 200).any fun s => s.1 == g := by
  unfold hrB hwI; rw [List.any_map]; rfl
end Go.Proofs.Ythfcemihaoijgaa.handQ
