/- The right hand on the wall, without the program: in a perfect maze it leads through every passage twice. -/
import Derived.Test.YtkknnikhpembiaaDeadQ
namespace Go.Proofs.Ytkknnikhpembiaa.handP
open gridP gridQ bitP mazeP mazeQ reachP reachM reachN forest deadP deadQ
set_option linter.unusedVariables false

/-! ### turning at a cell -/
def pk (b0 b1 b2 b3 : Bool) : Nat → Bool
  | 0 => b0
  | 1 => b1
  | 2 => b2
  | _ => b3
/-- The first open direction from e on, turning left. -/
def nx (p : Nat → Bool) (e : Nat) : Nat := if p e = true then e else if p ((e + 3) % 4) = true then (e + 3) % 4 else if p ((e + 2) % 4) = true then (e + 2) % 4 else (e + 1) % 4
theorem pk_at (p : Nat → Bool) {e : Nat} (he : e < 4) : p e = pk (p 0) (p 1) (p 2) (p 3) e := by
  rcases (by omega : e = 0 ∨ e = 1 ∨ e = 2 ∨ e = 3) with rfl | rfl | rfl | rfl <;> rfl
theorem nx_pk (p : Nat → Bool) {e : Nat} (he : e < 4) : nx p e = nx (pk (p 0) (p 1) (p 2) (p 3)) e := by
  unfold nx
  rw [pk_at p he, pk_at p (show (e + 3) % 4 < 4 by omega), pk_at p (show (e + 2) % 4 < 4 by omega)]
theorem nx_lt (p : Nat → Bool) {e : Nat} (he : e < 4) : nx p e < 4 := by
  unfold nx; repeat' split
  all_goals omega
theorem nx_on (p : Nat → Bool) {e r : Nat} (he : e < 4) (hr : r < 4) (h : p r = true) : p (nx p e) = true := by
  unfold nx
  split
  · assumption
  · split
    · assumption
    · split
      · assumption
      · rename_i h1 h2 h3
        rcases (by omega : r = e ∨ r = (e + 3) % 4 ∨ r = (e + 2) % 4 ∨ r = (e + 1) % 4) with rfl | rfl | rfl | rfl
        · exact absurd h h1
        · exact absurd h h2
        · exact absurd h h3
        · exact h
theorem inj_fin : ∀ b0 b1 b2 b3 : Bool, ∀ e e' : Fin 4, pk b0 b1 b2 b3 e = true → pk b0 b1 b2 b3 e' = true → nx (pk b0 b1 b2 b3) ((e + 3) % 4 : Nat) = nx (pk b0 b1 b2 b3) ((e' + 3) % 4 : Nat) → e = e' := by decide +kernel
theorem nx_inj (p : Nat → Bool) {e e' : Nat} (he : e < 4) (he' : e' < 4) (h : p e = true) (h' : p e' = true) (hx : nx p ((e + 3) % 4) = nx p ((e' + 3) % 4)) : e = e' := by
  rw [nx_pk p (show (e + 3) % 4 < 4 by omega), nx_pk p (show (e' + 3) % 4 < 4 by omega)] at hx
  rw [pk_at p he] at h; rw [pk_at p he'] at h'
  have := inj_fin (p 0) (p 1) (p 2) (p 3) ⟨e, he⟩ ⟨e', he'⟩ h h' hx
  exact congrArg Fin.val this
/-- p' is p without r. -/
theorem less_fin : ∀ b0 b1 b2 b3 : Bool, ∀ e r s : Fin 4, pk b0 b1 b2 b3 r = true → s ≠ r → pk b0 b1 b2 b3 s = true →
    (nx (pk b0 b1 b2 b3) e = r → nx (fun k => pk b0 b1 b2 b3 k && k != r) e = nx (pk b0 b1 b2 b3) ((r + 3) % 4 : Nat)) ∧ (nx (pk b0 b1 b2 b3) e ≠ r → nx (fun k => pk b0 b1 b2 b3 k && k != r) e = nx (pk b0 b1 b2 b3) e) ∧ nx (pk b0 b1 b2 b3) ((r + 3) % 4 : Nat) ≠ r := by decide +kernel
theorem nx_less {p p' : Nat → Bool} {e r s : Nat} (he : e < 4) (hr : r < 4) (hs : s < 4) (hp : ∀ k, k < 4 → p' k = (p k && k != r)) (h1 : p r = true) (h2 : p' s = true) :
    (nx p e = r → nx p' e = nx p ((r + 3) % 4)) ∧ (nx p e ≠ r → nx p' e = nx p e) ∧ nx p ((r + 3) % 4) ≠ r := by
  have h3 := hp s hs
  rw [h2] at h3
  have h4 : p s = true ∧ s ≠ r := by simpa using h3.symm
  have hn : nx p' e = nx (fun k => pk (p 0) (p 1) (p 2) (p 3) k && k != r) e := by
    unfold nx
    rw [hp e he, hp _ (show (e + 3) % 4 < 4 by omega), hp _ (show (e + 2) % 4 < 4 by omega), pk_at p he, pk_at p (show (e + 3) % 4 < 4 by omega), pk_at p (show (e + 2) % 4 < 4 by omega)]
  rw [hn, nx_pk p he, nx_pk p (show (r + 3) % 4 < 4 by omega)]
  rw [pk_at p hr] at h1; rw [pk_at p hs] at h4
  have := less_fin (p 0) (p 1) (p 2) (p 3) ⟨e, he⟩ ⟨r, hr⟩ ⟨s, hs⟩ h1 (fun e => h4.2 (congrArg Fin.val e)) h4.1
  exact this
theorem prev_fin : ∀ b0 b1 b2 b3 : Bool, ∀ r s : Fin 4, pk b0 b1 b2 b3 r = true → s ≠ r → pk b0 b1 b2 b3 s = true → ∃ e : Fin 4, e ≠ r ∧ pk b0 b1 b2 b3 e = true ∧ nx (pk b0 b1 b2 b3) ((e + 3) % 4 : Nat) = r := by decide +kernel
theorem nx_prev {p : Nat → Bool} {r s : Nat} (hr : r < 4) (hs : s < 4) (h1 : p r = true) (hne : s ≠ r) (h2 : p s = true) : ∃ e, e < 4 ∧ e ≠ r ∧ p e = true ∧ nx p ((e + 3) % 4) = r := by
  rw [pk_at p hr] at h1; rw [pk_at p hs] at h2
  obtain ⟨e, a1, a2, a3⟩ := prev_fin (p 0) (p 1) (p 2) (p 3) ⟨r, hr⟩ ⟨s, hs⟩ h1 (fun e => hne (congrArg Fin.val e)) h2
  refine ⟨e, e.2, fun h => a1 (Fin.ext h), by rw [pk_at p e.2]; exact a2, ?_⟩
  rw [nx_pk p (show ((e : Nat) + 3) % 4 < 4 by omega)]; exact a3
theorem nx_only {p : Nat → Bool} {r e : Nat} (hr : r < 4) (he : e < 4) (h1 : p r = true) (h : ∀ k, k < 4 → p k = true → k = r) : nx p e = r := h _ (nx_lt p he) (nx_on p he hr h1)

/-! ### moves -/
/-- The open directions of a cell. -/
def opB (st : Nat → Nat → Int) (c q : Nat) : Bool := decide (0 ≤ st c q)
/-- One move: to the right, straight on, to the left, back. -/
def mv (st : Nat → Nat → Int) (s : Nat × Nat) : Nat × Nat := ((st s.1 (nx (opB st s.1) ((s.2 + 1) % 4))).toNat, nx (opB st s.1) ((s.2 + 1) % 4))
/-- A walker who has just come through a passage. -/
def Ar (st : Nat → Nat → Int) (s : Nat × Nat) : Prop := s.2 < 4 ∧ 0 ≤ st s.1 ((s.2 + 2) % 4)
def it (f : Nat × Nat → Nat × Nat) : Nat → Nat × Nat → Nat × Nat
  | 0, s => s
  | n + 1, s => it f n (f s)
theorem it_add (f : Nat × Nat → Nat × Nat) : ∀ (n m : Nat) (s : Nat × Nat), it f (n + m) s = it f m (it f n s)
  | 0, m, s => by rw [Nat.zero_add]; rfl
  | n + 1, m, s => by
    rw [show n + 1 + m = (n + m) + 1 by omega]
    show it f (n + m) (f s) = it f m (it f n (f s))
    exact it_add f n m (f s)
theorem it_succ (f : Nat × Nat → Nat × Nat) (n : Nat) (s : Nat × Nat) : it f (n + 1) s = f (it f n s) := it_add f n 1 s

section
variable {x y : Int}
theorem stN_back2 {o u q v : Nat} (hs : stN x y o u q = (v : Int)) : stN x y o v ((q + 2) % 4) = (u : Int) := by
  unfold stN at hs ⊢
  have h := step_back (w := x) (h := y) (o := o) (k := u) (d := q) (by omega)
  rw [hs] at h
  rw [← h]
  congr 1
/-- Where a move leads. -/
theorem mv_step {o : Nat} {s : Nat × Nat} (h2 : s.2 < 4) (hw : ∃ q, q < 4 ∧ 0 ≤ stN x y o s.1 q) : (mv (stN x y o) s).2 < 4 ∧ stN x y o s.1 (mv (stN x y o) s).2 = ((mv (stN x y o) s).1 : Int) ∧ stN x y o (mv (stN x y o) s).1 (((mv (stN x y o) s).2 + 2) % 4) = (s.1 : Int) := by
  obtain ⟨q, hq, h0⟩ := hw
  have hn := nx_on (opB (stN x y o) s.1) (e := (s.2 + 1) % 4) (by omega) hq (decide_eq_true h0)
  have hp := of_decide_eq_true hn
  have hl := nx_lt (opB (stN x y o) s.1) (e := (s.2 + 1) % 4) (by omega)
  have h1 : stN x y o s.1 (mv (stN x y o) s).2 = ((mv (stN x y o) s).1 : Int) := by
    unfold mv; simp only; omega
  exact ⟨hl, h1, stN_back2 h1⟩
theorem ar_way {o : Nat} {s : Nat × Nat} (h : Ar (stN x y o) s) : ∃ q, q < 4 ∧ 0 ≤ stN x y o s.1 q := ⟨_, Nat.mod_lt _ (by decide), h.2⟩
theorem mv_ar {o : Nat} {s : Nat × Nat} (h2 : s.2 < 4) (hw : ∃ q, q < 4 ∧ 0 ≤ stN x y o s.1 q) : Ar (stN x y o) (mv (stN x y o) s) := by
  obtain ⟨a, b, c⟩ := mv_step h2 hw
  exact ⟨a, by rw [c]; omega⟩
theorem it_ar {o : Nat} {s : Nat × Nat} (h : Ar (stN x y o) s) : ∀ n, Ar (stN x y o) (it (mv (stN x y o)) n s)
  | 0 => h
  | n + 1 => by rw [it_succ]; exact mv_ar (it_ar h n).1 (ar_way (it_ar h n))
theorem mv_cn {o : Nat} {s : Nat × Nat} (h : Ar (stN x y o) s) : Cn x y o s.1 (mv (stN x y o) s).1 := by
  obtain ⟨a, b, -⟩ := mv_step h.1 (ar_way h)
  exact ⟨1, .step .zero a b⟩
theorem mv_inj {o : Nat} {s t : Nat × Nat} (hs : Ar (stN x y o) s) (ht : Ar (stN x y o) t) (h : mv (stN x y o) s = mv (stN x y o) t) : s = t := by
  obtain ⟨-, -, a⟩ := mv_step hs.1 (ar_way hs)
  obtain ⟨-, -, b⟩ := mv_step ht.1 (ar_way ht)
  rw [h, b] at a
  have hc : t.1 = s.1 := by omega
  have hd := congrArg Prod.snd h
  unfold mv at hd
  simp only at hd
  rw [hc] at hd
  have h1 := hs.1; have h2 := ht.1
  have := nx_inj (opB (stN x y o) s.1) (e := (s.2 + 2) % 4) (e' := (t.2 + 2) % 4) (by omega) (by omega) (decide_eq_true hs.2) (decide_eq_true (by rw [← hc]; exact ht.2))
    (by rw [show ((s.2 + 2) % 4 + 3) % 4 = (s.2 + 1) % 4 by omega, show ((t.2 + 2) % 4 + 3) % 4 = (t.2 + 1) % 4 by omega]; exact hd)
  exact Prod.ext hc.symm (by omega)

/-! ### a dead end is left out -/
theorem gap_uniq {u q q' g : Nat} (hk : OkZ x y) (hu : u < cN x y) (hg : g < gN x y) (hq : q < 4) (hq' : q' < 4) (h : gpZ x y u q = (g : Int)) (h' : gpZ x y u q' = (g : Int)) : q = q' := by
  refine cnt_one (p := fun q => gpZ x y u (q : Nat) == (g : Int)) (n := 4) ?_ hq hq' (by simpa using h) (by simpa using h')
  rw [gaps_of hk hu hg]; split <;> omega
theorem op_less {o u q g : Nat} (hk : OkZ x y) (ho : o < 2 ^ gN x y) (hb : bt o g = 1) : 0 ≤ stN x y (o - 2 ^ g : Nat) u q ↔ 0 ≤ stN x y o u q ∧ gpZ x y u q ≠ (g : Int) := by
  have hv := okm hk ho
  have hv' := okm hk (Nat.lt_of_le_of_lt (Nat.sub_le o (2 ^ g)) ho)
  obtain ⟨hle, hb0, hoo⟩ := bt_take hb
  rw [st_iff hv, st_iff hv']
  have hbt : ∀ g', bt (o - 2 ^ g) g' = if g' = g then 0 else bt o g' := fun g' => by
    split
    · rename_i e; rw [e]; exact hb0
    · rename_i e
      have := bt_add hb0 g'
      rw [hoo, if_neg e] at this
      omega
  refine ⟨fun ⟨g', e, h⟩ => ?_, fun ⟨⟨g', e, h⟩, hne⟩ => ⟨g', e, ?_⟩⟩
  · rw [hbt g'] at h
    split at h
    · omega
    · exact ⟨⟨g', e, h⟩, by omega⟩
  · rw [hbt g', if_neg (by rintro rfl; exact hne e)]; exact h

/-- A forest's arrivals of one part follow one another. -/
theorem orbit (hk : OkZ x y) : ∀ (f o : Nat), o < 2 ^ gN x y → pcN o (gN x y) ≤ f → lp x y o = 0 → ∀ s t : Nat × Nat, s.1 < cN x y → t.1 < cN x y → Ar (stN x y o) s → Ar (stN x y o) t → Cn x y o s.1 t.1 → ∃ k, it (mv (stN x y o)) k s = t
  | 0, o, ho, hf, hl, s, t, hsN, htN, hs, ht, hc => by
    exfalso
    have hv := okm hk ho
    obtain ⟨g, e, hb⟩ := (st_iff hv).1 hs.2
    have h1 := hs.2
    obtain ⟨v, hv'⟩ := Int.eq_ofNat_of_zero_le h1
    obtain ⟨g', -, hg', hb', -⟩ := step_gap2 hv hv'
    obtain ⟨hle, hb0, hoo⟩ := bt_take hb'
    have := pc_add hb0 hg'
    rw [hoo] at this
    omega
  | f + 1, o, ho, hf, hl, s, t, hsN, htN, hs, ht, hc => by
    have hv := okm hk ho
    -- a dead end
    have hend : ∃ c, c < cN x y ∧ dg x y o c = 1 := by
      rcases Nat.lt_or_ge (cnt (fun c => dg x y o c == 1) (cN x y)) 2 with h | h
      · exfalso
        have h0 := (no_ends hk ho hl (by omega)).2 s.1 hsN
        obtain ⟨v, hv'⟩ := Int.eq_ofNat_of_zero_le hs.2
        exact has_way (Nat.mod_lt _ (by decide)) hv' h0
      · obtain ⟨c, hc1, hc2⟩ := cnt_some (p := fun c => dg x y o c == 1) (n := cN x y) (by omega)
        exact ⟨c, hc1, by simpa using hc2⟩
    obtain ⟨c, hcN, hcd⟩ := hend
    obtain ⟨q, v, g, -, hq, hsv, hgp, hg, hb, ho', hpc, hl', hdz⟩ := fill_one hk ho hcN hcd
    have hl' := hl' hl
    have hvN : v < cN x y := stN_lt c q v hsv
    have hvc : v ≠ c := st_ne hsv
    have hback : stN x y o v ((q + 2) % 4) = (c : Int) := stN_back2 hsv
    have hq2 : (q + 2) % 4 < 4 := Nat.mod_lt _ (by decide)
    obtain ⟨g', eg', hg'N, hbg', hE'⟩ := step_gap2 hv hback
    obtain ⟨g'', eg'', hg''N, hbg'', hE⟩ := step_gap2 hv hsv
    have hgg : g'' = g := by omega
    subst hgg
    -- the gap of the way back is the same
    have hgback : gpZ x y v ((q + 2) % 4 : Nat) = (g'' : Int) := by
      have hn : ¬ nbZ x y c q < 0 := by
        intro h
        have := st_neg (w := x) (h := y) (o := o) (k := c) (d := q) h
        unfold stN at hsv; omega
      obtain ⟨b1, b2, b3, -⟩ := both x y c q hn
      have hnb : nbZ x y c q = v := by
        unfold stN stZ at hsv
        split at hsv
        · exact hsv
        · omega
      rw [hnb] at b3
      rw [← hgp, ← b3]
      congr 1
    -- which directions are left
    have hopl : ∀ u e : Nat, 0 ≤ stN x y (o - 2 ^ g'' : Nat) u e ↔ 0 ≤ stN x y o u e ∧ gpZ x y u e ≠ (g'' : Int) := fun u e => op_less hk ho hb
    have honly : ∀ e, e < 4 → 0 ≤ stN x y o c e → e = q := fun e he h => one_way (o := o) (c := c) (by omega) he hq h (by rw [hsv]; omega)
    have hc0 : ∀ e, e < 4 → ¬ 0 ≤ stN x y (o - 2 ^ g'' : Nat) c e := fun e he h => by
      obtain ⟨h1, h2⟩ := (hopl c e).1 h
      rw [honly e he h1] at h2
      exact h2 hgp
    have hvB : ∀ e, e < 4 → opB (stN x y (o - 2 ^ g'' : Nat)) v e = (opB (stN x y o) v e && e != (q + 2) % 4) := fun e he => by
      unfold opB
      rw [Bool.eq_iff_iff, decide_eq_true_iff, Bool.and_eq_true, decide_eq_true_iff, bne_iff_ne, hopl]
      refine and_congr_right fun h => ?_
      refine ⟨fun h1 h2 => h1 (by rw [h2]; exact hgback), fun h1 h2 => h1 (gap_uniq hk hvN hg he hq2 h2 hgback)⟩
    have hoB : ∀ u, u < cN x y → u ≠ c → u ≠ v → ∀ e, e < 4 → opB (stN x y (o - 2 ^ g'' : Nat)) u e = opB (stN x y o) u e := fun u hu h1 h2 e he => by
      unfold opB
      rw [decide_eq_decide, hopl]
      refine ⟨fun h => h.1, fun h => ⟨h, fun h3 => ?_⟩⟩
      have := gaps_of (c := u) hk hu hg
      rw [if_neg (by rcases hE with ⟨e1, e2⟩ | ⟨e1, e2⟩ <;> omega)] at this
      have h4 := cnt_pos (p := fun q => gpZ x y u (q : Nat) == (g'' : Int)) (n := 4) he (by simpa using h3)
      omega
    -- the two arrivals of the passage
    have hA : Ar (stN x y o) (c, (q + 2) % 4) := ⟨hq2, by rw [show ((q + 2) % 4 + 2) % 4 = q by omega, hsv]; omega⟩
    have hBr : Ar (stN x y o) (v, q) := ⟨hq, by show 0 ≤ stN x y o v ((q + 2) % 4); rw [hback]; omega⟩
    have hAB : mv (stN x y o) (c, (q + 2) % 4) = (v, q) := by
      have hn : nx (opB (stN x y o) c) (((q + 2) % 4 + 1) % 4) = q := nx_only hq (Nat.mod_lt _ (by decide)) (decide_eq_true (by rw [hsv]; omega)) fun e he h => honly e he (of_decide_eq_true h)
      unfold mv
      simp only
      rw [hn, hsv]; simp
    -- arrivals of the smaller forest
    have hsub : ∀ u : Nat × Nat, Ar (stN x y (o - 2 ^ g'' : Nat)) u → Ar (stN x y o) u ∧ u.1 ≠ c := fun u h => ⟨⟨h.1, ((hopl _ _).1 h.2).1⟩, fun e => hc0 _ (Nat.mod_lt _ (by decide)) (by rw [← e]; exact h.2)⟩
    have hsup : ∀ u : Nat × Nat, Ar (stN x y o) u → u ≠ (c, (q + 2) % 4) → u ≠ (v, q) → u.1 < cN x y → Ar (stN x y (o - 2 ^ g'' : Nat)) u ∧ u.1 ≠ c := fun u h h1 h2 hu => by
      have hne : gpZ x y u.1 ((u.2 + 2) % 4 : Nat) ≠ (g'' : Int) := fun h3 => by
        have := gaps_of (c := u.1) hk hu hg
        by_cases huc : u.1 = c
        · have h4 := honly _ (Nat.mod_lt _ (by decide)) (by rw [← huc]; exact h.2)
          have h5 := h.1
          exact h1 (Prod.ext huc (by show u.2 = _; omega))
        · by_cases huv : u.1 = v
          · have h4 := gap_uniq hk hvN hg (Nat.mod_lt _ (by decide)) hq2 (by rw [← huv]; exact h3) hgback
            have h5 := h.1
            exact h2 (Prod.ext huv (by show u.2 = _; omega))
          · rw [if_neg (by rcases hE with ⟨e1, e2⟩ | ⟨e1, e2⟩ <;> omega)] at this
            have h4 := cnt_pos (p := fun q => gpZ x y u.1 (q : Nat) == (g'' : Int)) (n := 4) (Nat.mod_lt _ (by decide)) (by rw [beq_iff_eq]; exact h3)
            omega
      have := (hopl _ _).2 ⟨h.2, hne⟩
      exact ⟨⟨h.1, this⟩, (hsub u ⟨h.1, this⟩).2⟩
    -- a step of the smaller forest
    have hval : ∀ u e : Nat, 0 ≤ stN x y (o - 2 ^ g'' : Nat) u e → stN x y (o - 2 ^ g'' : Nat) u e = stN x y o u e := fun u e h => by
      obtain ⟨k, hk'⟩ := Int.eq_ofNat_of_zero_le ((hopl u e).1 h).1
      rw [hk']; exact st_val hk' h
    have hmvN : ∀ u : Nat × Nat, Ar (stN x y (o - 2 ^ g'' : Nat)) u → (mv (stN x y (o - 2 ^ g'' : Nat)) u).1 < cN x y := fun u h => by
      obtain ⟨-, h1, -⟩ := mv_step h.1 (ar_way h)
      exact stN_lt _ _ _ h1
    have hstep : ∀ u : Nat × Nat, u.1 < cN x y → Ar (stN x y (o - 2 ^ g'' : Nat)) u → ∃ k, it (mv (stN x y o)) k u = mv (stN x y (o - 2 ^ g'' : Nat)) u := fun u hu h => by
      obtain ⟨h1, h2⟩ := hsub u h
      have hon := nx_on (opB (stN x y (o - 2 ^ g'' : Nat)) u.1) (e := (u.2 + 1) % 4) (Nat.mod_lt _ (by decide)) (Nat.mod_lt (u.2 + 2) (by decide)) (decide_eq_true h.2)
      have hvl := hval u.1 _ (of_decide_eq_true hon)
      have same : nx (opB (stN x y (o - 2 ^ g'' : Nat)) u.1) ((u.2 + 1) % 4) = nx (opB (stN x y o) u.1) ((u.2 + 1) % 4) → ∃ k, it (mv (stN x y o)) k u = mv (stN x y (o - 2 ^ g'' : Nat)) u := fun e => by
        refine ⟨1, ?_⟩
        show mv (stN x y o) u = _
        unfold mv
        rw [hvl, e]
      by_cases huv : u.1 = v
      · have hne := nx_less (p := opB (stN x y o) v) (p' := opB (stN x y (o - 2 ^ g'' : Nat)) v) (e := (u.2 + 1) % 4) (r := (q + 2) % 4) (s := (u.2 + 2) % 4) (Nat.mod_lt _ (by decide)) hq2 (Nat.mod_lt _ (by decide)) hvB (decide_eq_true (by rw [hback]; omega)) (decide_eq_true (by rw [← huv]; exact h.2))
        by_cases hr : nx (opB (stN x y o) v) ((u.2 + 1) % 4) = (q + 2) % 4
        · refine ⟨3, ?_⟩
          have e1 : mv (stN x y o) u = (c, (q + 2) % 4) := by
            unfold mv; rw [huv, hr, hback]; simp
          show mv (stN x y o) (mv (stN x y o) (mv (stN x y o) u)) = _
          rw [e1, hAB]
          unfold mv
          simp only
          rw [hvl, huv, hne.1 hr, show ((q + 2) % 4 + 3) % 4 = (q + 1) % 4 by omega]
        · exact same (by rw [huv]; exact hne.2.1 hr)
      · refine same ?_
        unfold nx
        have ho := hoB u.1 hu h2 huv
        rw [ho _ (Nat.mod_lt _ (by decide)), ho _ (Nat.mod_lt _ (by decide)), ho _ (Nat.mod_lt _ (by decide))]
    have hsteps : ∀ n (u : Nat × Nat), u.1 < cN x y → Ar (stN x y (o - 2 ^ g'' : Nat)) u → ∃ k, it (mv (stN x y o)) k u = it (mv (stN x y (o - 2 ^ g'' : Nat))) n u := by
      intro n
      induction n with
      | zero => intro u _ _; exact ⟨0, rfl⟩
      | succ n ih =>
        intro u hu h
        obtain ⟨k1, e1⟩ := hstep u hu h
        obtain ⟨k2, e2⟩ := ih _ (hmvN u h) (mv_ar h.1 (ar_way h))
        exact ⟨k1 + k2, by rw [it_add, e1, e2]; rfl⟩
    have hsame : ∀ u t : Nat × Nat, u.1 < cN x y → t.1 < cN x y → Ar (stN x y (o - 2 ^ g'' : Nat)) u → Ar (stN x y (o - 2 ^ g'' : Nat)) t → Cn x y o u.1 t.1 → ∃ k, it (mv (stN x y o)) k u = t := fun u t hu ht h1 h2 hcn => by
      have hcn' : Cn x y (o - 2 ^ g'' : Nat) u.1 t.1 := (cn_iff hu t.1).1 (by rw [hdz u.1 t.1 hu ht (hsub u h1).2 (hsub t h2).2]; exact (cn_iff hu t.1).2 hcn)
      obtain ⟨n, e⟩ := orbit hk f (o - 2 ^ g'') ho' (by omega) hl' u t hu ht h1 h2 hcn'
      obtain ⟨k, e'⟩ := hsteps n u hu h1
      exact ⟨k, by rw [e', e]⟩
    have hcv : Cn x y o c v := ⟨1, .step .zero hq hsv⟩
    by_cases hv0 : ∃ e, e < 4 ∧ e ≠ (q + 2) % 4 ∧ 0 ≤ stN x y o v e
    · obtain ⟨e0, he0, hne0, hse0⟩ := hv0
      have hpr : opB (stN x y o) v ((q + 2) % 4) = true := decide_eq_true (by rw [hback]; omega)
      -- what follows the passage
      have hT : ∃ k, ∃ u, it (mv (stN x y o)) k (v, q) = u ∧ u.1 < cN x y ∧ Ar (stN x y (o - 2 ^ g'' : Nat)) u ∧ Cn x y o v u.1 := by
        have hl := (nx_less (p := opB (stN x y o) v) (p' := fun k => opB (stN x y o) v k && k != (q + 2) % 4) (e := 0) (r := (q + 2) % 4) (s := e0) (by decide) hq2 he0 (fun _ _ => rfl) hpr (by simp [hne0]; exact decide_eq_true hse0)).2.2
        obtain ⟨m1, m2, m3⟩ := mv_step hBr.1 (ar_way hBr)
        have m4 := mv_ar hBr.1 (ar_way hBr)
        have hN : (mv (stN x y o) (v, q)).1 < cN x y := stN_lt _ _ _ m2
        have h2' : (mv (stN x y o) (v, q)).2 ≠ (q + 2) % 4 := by
          unfold mv; simp only
          rw [show ((q + 2) % 4 + 3) % 4 = (q + 1) % 4 by omega] at hl; exact hl
        have hnA : mv (stN x y o) (v, q) ≠ (c, (q + 2) % 4) := fun e => h2' (congrArg Prod.snd e)
        have hnB : mv (stN x y o) (v, q) ≠ (v, q) := fun e => by
          rw [e] at m2
          exact st_ne (show stN x y o v q = ((v : Nat) : Int) from m2) rfl
        exact ⟨1, _, rfl, hN, (hsup _ m4 hnA hnB hN).1, mv_cn hBr⟩
      obtain ⟨kT, uT, eT, hTN, hTA, hTc⟩ := hT
      -- what comes ahead of it
      have hS : ∃ k, ∃ u, it (mv (stN x y o)) k u = (c, (q + 2) % 4) ∧ u.1 < cN x y ∧ Ar (stN x y (o - 2 ^ g'' : Nat)) u ∧ u.1 = v := by
        obtain ⟨e, he, hne, hpe, hnx⟩ := nx_prev hq2 he0 hpr hne0 (decide_eq_true hse0)
        have hAr : Ar (stN x y o) (v, (e + 2) % 4) := ⟨Nat.mod_lt _ (by decide), by show 0 ≤ stN x y o v (((e + 2) % 4 + 2) % 4); rw [show ((e + 2) % 4 + 2) % 4 = e by omega]; exact of_decide_eq_true hpe⟩
        have hmv : mv (stN x y o) (v, (e + 2) % 4) = (c, (q + 2) % 4) := by
          unfold mv; simp only
          rw [show ((e + 2) % 4 + 1) % 4 = (e + 3) % 4 by omega, hnx, hback]; simp
        have hnA : ((v, (e + 2) % 4) : Nat × Nat) ≠ (c, (q + 2) % 4) := fun h => hvc (congrArg Prod.fst h)
        have hnB : ((v, (e + 2) % 4) : Nat × Nat) ≠ (v, q) := fun h => by
          have := congrArg Prod.snd h
          simp only at this
          exact hne (by omega)
        exact ⟨1, _, hmv, hvN, (hsup _ hAr hnA hnB hvN).1, rfl⟩
      obtain ⟨kS, uS, eS, hSN, hSA, hSv⟩ := hS
      have from_s : ∃ k u, it (mv (stN x y o)) k s = u ∧ u.1 < cN x y ∧ Ar (stN x y (o - 2 ^ g'' : Nat)) u ∧ Cn x y o s.1 u.1 := by
        by_cases h1 : s = (c, (q + 2) % 4)
        · refine ⟨1 + kT, uT, ?_, hTN, hTA, ?_⟩
          · rw [it_add, h1]; show it _ kT (mv (stN x y o) (c, (q + 2) % 4)) = _; rw [hAB, eT]
          · rw [h1]; exact cn_trans hcv hTc
        · by_cases h2 : s = (v, q)
          · exact ⟨kT, uT, by rw [h2, eT], hTN, hTA, by rw [h2]; exact hTc⟩
          · exact ⟨0, s, rfl, hsN, (hsup s hs h1 h2 hsN).1, cn_refl _ _⟩
      have to_t : ∃ k u, it (mv (stN x y o)) k u = t ∧ u.1 < cN x y ∧ Ar (stN x y (o - 2 ^ g'' : Nat)) u ∧ Cn x y o u.1 t.1 := by
        by_cases h1 : t = (c, (q + 2) % 4)
        · exact ⟨kS, uS, by rw [h1, eS], hSN, hSA, by rw [h1, hSv]; exact cn_symm hcv⟩
        · by_cases h2 : t = (v, q)
          · refine ⟨kS + 1, uS, ?_, hSN, hSA, by rw [h2, hSv]; exact cn_refl _ _⟩
            rw [it_add, eS, h2]; exact hAB
          · exact ⟨0, t, rfl, htN, (hsup t ht h1 h2 htN).1, cn_refl _ _⟩
      obtain ⟨k1, u1, e1, n1, a1, c1⟩ := from_s
      obtain ⟨k3, u3, e3, n3, a3, c3⟩ := to_t
      obtain ⟨k2, e2⟩ := hsame u1 u3 n1 n3 a1 a3 (cn_trans (cn_symm c1) (cn_trans hc (cn_symm c3)))
      exact ⟨k1 + k2 + k3, by rw [it_add, it_add, e1, e2, e3]⟩
    · -- the passage is a part of its own
      have hvo : ∀ e, e < 4 → 0 ≤ stN x y o v e → e = (q + 2) % 4 := fun e he h => Classical.byContradiction fun hne => hv0 ⟨e, he, hne, h⟩
      have hBA : mv (stN x y o) (v, q) = (c, (q + 2) % 4) := by
        have hn : nx (opB (stN x y o) v) ((q + 1) % 4) = (q + 2) % 4 := nx_only hq2 (Nat.mod_lt _ (by decide)) (decide_eq_true (by rw [hback]; omega)) fun e he h => hvo e he (of_decide_eq_true h)
        unfold mv; simp only
        rw [hn, hback]; simp
      have hin : ∀ u : Nat × Nat, Ar (stN x y o) u → (u.1 = c ∨ u.1 = v) → u = (c, (q + 2) % 4) ∨ u = (v, q) := fun u h hu => by
        have h5 := h.1
        rcases hu with e | e
        · have h4 := honly _ (Nat.mod_lt _ (by decide)) (by rw [← e]; exact h.2)
          exact .inl (Prod.ext e (by show u.2 = _; omega))
        · have h4 := hvo _ (Nat.mod_lt _ (by decide)) (by rw [← e]; exact h.2)
          exact .inr (Prod.ext e (by show u.2 = _; omega))
      have hwk : ∀ {n a u : Nat}, (a = c ∨ a = v) → Wk (stN x y o) a n u → u = c ∨ u = v := fun ha h => by
        induction h with
        | zero => exact ha
        | step h hq' hs' ih =>
          rcases ih with e | e
          · subst e
            have := honly _ hq' (by rw [hs']; omega)
            rw [this, hsv] at hs'; right; omega
          · subst e
            have := hvo _ hq' (by rw [hs']; omega)
            rw [this, hback] at hs'; left; omega
      by_cases hsc : s.1 = c ∨ s.1 = v
      · obtain ⟨n, hw⟩ := hc
        have htc := hwk hsc hw
        rcases hin s hs hsc with e | e <;> rcases hin t ht htc with e' | e'
        · exact ⟨0, by rw [e, e']; rfl⟩
        · exact ⟨1, by rw [e, e']; exact hAB⟩
        · exact ⟨1, by rw [e, e']; exact hBA⟩
        · exact ⟨0, by rw [e, e']; rfl⟩
      · have htc : ¬ (t.1 = c ∨ t.1 = v) := fun h => by
          obtain ⟨n, hw⟩ := cn_symm hc
          exact hsc (hwk h hw)
        refine hsame s t hsN htN (hsup s hs ?_ ?_ hsN).1 (hsup t ht ?_ ?_ htN).1 hc
        · exact fun e => hsc (.inl (congrArg Prod.fst e))
        · exact fun e => hsc (.inr (congrArg Prod.fst e))
        · exact fun e => htc (.inl (congrArg Prod.fst e))
        · exact fun e => htc (.inr (congrArg Prod.fst e))
end
end Go.Proofs.Ytkknnikhpembiaa.handP
