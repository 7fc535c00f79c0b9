/- Filling dead ends, without the program: distances stay, and one way is left. -/
import Derived.Test.YtkknnikhpembiaaDeadP
namespace Go.Proofs.Ytkknnikhpembiaa.deadQ
open gridP gridQ bitP mazeP mazeQ reachP reachM reachN reachD forest deadP
set_option linter.unusedVariables false

section
variable {x y : Int}
/-- A step's gap and its ends. -/
theorem step_gap2 {o u q v : Nat} (hv : OkM x y o) (hs : stN x y o u q = (v : Int)) : ∃ g : Nat, gpZ x y u q = (g : Int) ∧ g < gN x y ∧ bt o g = 1 ∧ ((u = aN x y g ∧ v = bN x y g) ∨ (u = bN x y g ∧ v = aN x y g)) := by
  have hn : ¬ nbZ x y u q < 0 := by
    intro h
    have := st_neg (w := x) (h := y) (o := o) (k := u) (d := q) h
    unfold stN at hs; omega
  have hp := st_pos (k := (u : Int)) (d := (q : Int)) hv hn
  have h0 : 0 ≤ stZ x y o u q := by unfold stN at hs; omega
  have hb := hp.1 h0
  have hnb : nbZ x y u q = v := by
    unfold stN stZ at hs
    split at hs
    · exact hs
    · omega
  obtain ⟨b1, b2, b3, b4, b5, b6⟩ := both x y u q hn
  have hlt := gp_lt x y u q hn
  have hg : ((gpZ x y u q).toNat : Int) = gpZ x y u q := by omega
  refine ⟨(gpZ x y u q).toNat, hg.symm, by unfold gN; omega, by simpa using hb, ?_⟩
  have he := (ends (g := (gpZ x y u q).toNat) hv.1 (by unfold gN; omega)).1
  rw [hg] at he
  unfold aN bN
  rw [hg]
  have hne := nb_ne (x := x) (y := y) (u : Int) (q : Int)
  rw [hnb] at b6 hne
  rcases b5 with e | e <;> rcases b6 with e' | e' <;> omega
theorem st_val {o o' u q v : Nat} (hs : stN x y o u q = (v : Int)) (h0 : 0 ≤ stN x y o' u q) : stN x y o' u q = (v : Int) := by
  unfold stN stZ at hs h0 ⊢
  split at h0
  · rename_i h'; rw [if_pos h']
    split at hs
    · exact hs
    · omega
  · omega
theorem st_ne {o u q v : Nat} (hs : stN x y o u q = (v : Int)) : v ≠ u := by
  rintro rfl
  unfold stN stZ at hs
  split at hs
  · rcases nb_ne (x := x) (y := y) (v : Int) (q : Int) with h | h <;> omega
  · omega
/-- A cell with one way. -/
theorem one_way {o c q q' : Nat} (hd : dg x y o c ≤ 1) (hq : q < 4) (hq' : q' < 4) (h : 0 ≤ stN x y o c q) (h' : 0 ≤ stN x y o c q') : q = q' :=
  cnt_one hd hq hq' (decide_eq_true h) (decide_eq_true h')
theorem two_ways {o c q q' r : Nat} (hd : dg x y o c ≤ 2) (hq : q < 4) (hq' : q' < 4) (hr : r < 4) (h : 0 ≤ stN x y o c q) (h' : 0 ≤ stN x y o c q') (hr' : 0 ≤ stN x y o c r) (hne : q ≠ q') : r = q ∨ r = q' :=
  cnt_two hd hq hq' hr (decide_eq_true h) (decide_eq_true h') (decide_eq_true hr') hne
theorem has_way {o c q v : Nat} (hq : q < 4) (hs : stN x y o c q = (v : Int)) : dg x y o c ≠ 0 := by
  have := cnt_pos (p := fun q => decide (0 ≤ stN x y o c q)) (n := 4) hq (decide_eq_true (by rw [hs]; omega))
  unfold dg; omega

/-! ### one dead end is filled -/
/-- A walk between other cells does without a dead end. -/
theorem fill_wk {o g c a q0 v0 : Nat} (hk : OkZ x y) (ho : o < 2 ^ gN x y) (hb : bt o g = 1) (hd : dg x y o c = 1) (hq0 : q0 < 4) (hs0 : stN x y o c q0 = (v0 : Int)) (hg0 : gpZ x y c q0 = (g : Int)) (hgN : g < gN x y) (hac : a ≠ c) {n u : Nat} (h : Wk (stN x y o) a n u) :
    (u ≠ c → ∃ m, m ≤ n ∧ Wk (stN x y (o - 2 ^ g : Nat)) a m u) ∧ (u = c → ∃ m, m + 1 ≤ n ∧ Wk (stN x y (o - 2 ^ g : Nat)) a m v0) := by
  have hv := okm hk ho
  obtain ⟨hle, hb0, hoo⟩ := bt_take hb
  have ho' : o - 2 ^ g < 2 ^ gN x y := Nat.lt_of_le_of_lt (Nat.sub_le _ _) ho
  have hv' := okm hk ho'
  have hbits : ∀ j, j ≠ g → bt (o - 2 ^ g) j = bt o j := fun j hj => by
    have := bt_add hb0 j
    rw [hoo, if_neg hj] at this; exact this.symm
  obtain ⟨g1, e1, -, -, hends⟩ := step_gap2 hv hs0
  obtain rfl : g = g1 := by omega
  induction h with
  | zero => exact ⟨fun _ => ⟨0, Nat.le_refl _, .zero⟩, fun e => absurd e hac⟩
  | @step n u q w hw hq hs ih =>
    obtain ⟨ih1, ih2⟩ := ih
    by_cases huc : u = c
    · subst huc
      obtain rfl : q = q0 := one_way (Nat.le_of_eq hd) hq hq0 (by rw [hs]; omega) (by rw [hs0]; omega)
      obtain rfl : w = v0 := by omega
      obtain ⟨m, hm, hw'⟩ := ih2 rfl
      exact ⟨fun _ => ⟨m, by omega, hw'⟩, fun e => absurd e (st_ne hs)⟩
    · obtain ⟨m, hm, hw'⟩ := ih1 huc
      obtain ⟨j, ej, hj, hbj, hje⟩ := step_gap2 hv hs
      by_cases hwc : w = c
      · subst hwc
        obtain ⟨q', hq', hs'⟩ := stN_back hq hs
        obtain rfl : q' = q0 := one_way (Nat.le_of_eq hd) hq' hq0 (by rw [hs']; omega) (by rw [hs0]; omega)
        obtain rfl : u = v0 := by omega
        exact ⟨fun e => absurd rfl e, fun _ => ⟨m, by omega, hw'⟩⟩
      · have hjg : j ≠ g := by
          rintro rfl
          rcases hends with ⟨h1, h2⟩ | ⟨h1, h2⟩ <;> rcases hje with ⟨h3, h4⟩ | ⟨h3, h4⟩
          · exact huc (h3.trans h1.symm)
          · exact hwc (h4.trans h1.symm)
          · exact hwc (h4.trans h1.symm)
          · exact huc (h3.trans h1.symm)
        have hs' : stN x y (o - 2 ^ g : Nat) u q = (w : Int) := st_val hs ((st_iff hv').2 ⟨j, ej, by rw [hbits j hjg]; exact hbj⟩)
        exact ⟨fun _ => ⟨m + 1, by omega, .step hw' hq hs'⟩, fun e => absurd e hwc⟩
theorem wk_less {o g a : Nat} (hk : OkZ x y) (ho : o < 2 ^ gN x y) (hb : bt o g = 1) {n u : Nat} (h : Wk (stN x y (o - 2 ^ g : Nat)) a n u) : Wk (stN x y o) a n u := by
  obtain ⟨hle, hb0, hoo⟩ := bt_take hb
  have ho' : o - 2 ^ g < 2 ^ gN x y := Nat.lt_of_le_of_lt (Nat.sub_le _ _) ho
  induction h with
  | zero => exact .zero
  | @step n u q w hw hq hs ih =>
    obtain ⟨j, ej, hj⟩ := (st_iff (okm hk ho')).1 (show 0 ≤ stN x y (o - 2 ^ g : Nat) u q by rw [hs]; omega)
    refine .step ih hq (st_val hs ((st_iff (okm hk ho)).2 ⟨j, ej, ?_⟩))
    have := bt_add hb0 j
    rw [hoo] at this
    rw [this]; split
    · rfl
    · exact hj
theorem dZ_eq {st st' : Nat → Nat → Int} {N a b : Nat} (ha : a < N) (hst : ∀ u q v : Nat, st u q = (v : Int) → v < N) (hst' : ∀ u q v : Nat, st' u q = (v : Int) → v < N) (h1 : ∀ n, Wk st a n b → ∃ m, m ≤ n ∧ Wk st' a m b) (h2 : ∀ n, Wk st' a n b → ∃ m, m ≤ n ∧ Wk st a m b) : dZ st N a b = dZ st' N a b := by
  rcases dZ_spec ha hst b with ⟨e1, f1⟩ | ⟨n, e1, _, f1, g1⟩
  · rcases dZ_spec ha hst' b with ⟨e2, f2⟩ | ⟨m, e2, _, f2, g2⟩
    · rw [e1, e2]
    · obtain ⟨k, -, hk⟩ := h2 m f2; exact absurd hk (f1 k)
  · rcases dZ_spec ha hst' b with ⟨e2, f2⟩ | ⟨m, e2, _, f2, g2⟩
    · obtain ⟨k, -, hk⟩ := h1 n f1; exact absurd hk (f2 k)
    · obtain ⟨k, hk1, hk2⟩ := h1 n f1
      obtain ⟨j, hj1, hj2⟩ := h2 m f2
      have := g1 _ hj2
      have := g2 _ hk2
      rw [e1, e2]; omega
/-- What filling a dead end does. -/
theorem fill_one {o c : Nat} (hk : OkZ x y) (ho : o < 2 ^ gN x y) (hc : c < cN x y) (hd : dg x y o c = 1) :
    ∃ q v g : Nat, wlZ x y o c = [(q : Int)] ∧ q < 4 ∧ stN x y o c q = (v : Int) ∧ gpZ x y c q = (g : Int) ∧ g < gN x y ∧ bt o g = 1 ∧ o - 2 ^ g < 2 ^ gN x y ∧ pcN o (gN x y) = pcN (o - 2 ^ g) (gN x y) + 1 ∧
    (lp x y o = 0 → lp x y (o - 2 ^ g : Nat) = 0) ∧ ∀ a b, a < cN x y → b < cN x y → a ≠ c → b ≠ c → dZ (stN x y (o - 2 ^ g : Nat)) (cN x y) a b = dZ (stN x y o) (cN x y) a b := by
  have hv := okm hk ho
  have hlen : (wlZ x y o c).length = 1 := by rw [wl_dg]; exact hd
  obtain ⟨q, hq, hsq⟩ := cnt_some (p := fun q => decide (0 ≤ stN x y o c q)) (n := 4) (by unfold dg at hd; omega)
  have hsq := of_decide_eq_true hsq
  obtain ⟨v, hsv⟩ := Int.eq_ofNat_of_zero_le hsq
  obtain ⟨g, eg, hg, hb, -⟩ := step_gap2 hv hsv
  obtain ⟨hle, hb0, hoo⟩ := bt_take hb
  have ho' : o - 2 ^ g < 2 ^ gN x y := Nat.lt_of_le_of_lt (Nat.sub_le _ _) ho
  have hwl : wlZ x y o c = [(q : Int)] := by
    have hmem : ∀ n, q < n → (q : Int) ∈ wlN x y o c n := fun n => by
      induction n with
      | zero => intro h; omega
      | succ n ih =>
        intro h
        unfold wlN
        by_cases e : q = n
        · subst e; rw [if_pos (show 0 ≤ stZ x y o c q from hsq)]; simp
        · split
          · exact List.mem_append.2 (.inl (ih (by omega)))
          · exact ih (by omega)
    have hm := hmem 4 hq
    obtain ⟨d, hd'⟩ := List.length_eq_one_iff.1 hlen
    unfold wlZ at hd' ⊢
    rw [hd'] at hm ⊢
    have : (q : Int) = d := by simpa using hm
    rw [this]
  have hpc := pc_add hb0 hg
  rw [hoo] at hpc
  refine ⟨q, v, g, hwl, hq, hsv, eg, hg, hb, ho', hpc, fun hl => ?_, fun a b ha hb' hac hbc => ?_⟩
  · obtain ⟨l1, l2⟩ := lp_add hk ho' hg hb0
    have hp := lp_pos hk ho'
    rw [hoo] at l1 l2
    by_cases hcn : Cn x y (o - 2 ^ g : Nat) (aN x y g) (bN x y g)
    · have := l1 hcn; omega
    · rw [← l2 hcn]; exact hl
  · refine dZ_eq ha (@stN_lt x y _) (@stN_lt x y _) (fun n h => ⟨n, Nat.le_refl _, wk_less hk ho hb h⟩) (fun n h => ?_)
    exact (fill_wk hk ho hb hd hq hsv eg hg hac h).1 hbc

/-! ### what is left is one way -/
theorem wk_path {st : Nat → Nat → Int} {a : Nat} {n v : Nat} (h : Wk st a n v) : ∃ p : Nat → Nat, p 0 = a ∧ p n = v ∧ ∀ i, i < n → ∃ q, q < 4 ∧ st (p i) q = (p (i + 1) : Int) := by
  induction h with
  | zero => exact ⟨fun _ => a, rfl, rfl, fun i hi => absurd hi (by omega)⟩
  | @step n u q w _ hq hs ih =>
    obtain ⟨p, h0, hn, hp⟩ := ih
    refine ⟨fun i => if i ≤ n then p i else w, by simp [h0], if_neg (by omega), fun i hi => ?_⟩
    by_cases e : i = n
    · subst e
      refine ⟨q, hq, ?_⟩
      show st (if i ≤ i then p i else w) q = ((if i + 1 ≤ i then p (i + 1) else w : Nat) : Int)
      rw [if_pos (Nat.le_refl _), if_neg (by omega), hn, hs]
    · obtain ⟨q', hq', hs'⟩ := hp i (by omega)
      refine ⟨q', hq', ?_⟩
      show st (if i ≤ n then p i else w) q' = ((if i + 1 ≤ n then p (i + 1) else w : Nat) : Int)
      rw [if_pos (by omega), if_pos (by omega)]; exact hs'
theorem path_wk {st : Nat → Nat → Int} {p : Nat → Nat} {n : Nat} (hp : ∀ i, i < n → ∃ q, q < 4 ∧ st (p i) q = (p (i + 1) : Int)) (i : Nat) : ∀ j, i ≤ j → j ≤ n → Wk st (p i) (j - i) (p j)
  | 0, h1, h2 => by obtain rfl : i = 0 := by omega
                    exact .zero
  | j + 1, h1, h2 => by
    rcases Nat.lt_or_ge i (j + 1) with h | h
    · obtain ⟨q, hq, hs⟩ := hp j (by omega)
      have := Wk.step (path_wk hp i j (by omega) (by omega)) hq hs
      rwa [show j - i + 1 = j + 1 - i by omega] at this
    · obtain rfl : i = j + 1 := by omega
      rw [Nat.sub_self]; exact .zero
/-- In a maze without loops whose ends are two cells that are connected, the passages are the way between them. -/
theorem one_left {o a b : Nat} (hk : OkZ x y) (ho : o < 2 ^ gN x y) (hl : lp x y o = 0) (ha : a < cN x y) (hb : b < cN x y) (hcn : Cn x y o a b) (hends : ∀ c, c < cN x y → dg x y o c = 1 → c = a ∨ c = b) :
    (pcN o (gN x y) : Int) = dZ (stN x y o) (cN x y) a b := by
  have hkeep := cnt_keep (p := fun c => dg x y o c == 1) (n := cN x y) (a := a) (b := b) fun c hc h => hends c hc (by simpa using h)
  by_cases hab : a = b
  · subst hab
    have := (no_ends hk ho hl (hkeep.2 rfl)).1
    rw [this, (dZ_self ha (@stN_lt x y o) a).2 rfl]; rfl
  · have hna : dg x y o a ≠ 0 := fun h => hab (iso_cn h hcn).symm
    have hnb : dg x y o b ≠ 0 := fun h => hab (iso_cn h (cn_symm hcn))
    obtain ⟨e1, e2⟩ := ends_low hk ho hl
    obtain ⟨i1, i2⟩ := iso_le (x := x) (y := y) (o := o)
    have hpt : pt x y o = cnt (fun c => dg x y o c == 0) (cN x y) + 1 := by
      by_cases h : pt x y o ≤ cnt (fun c => dg x y o c == 0) (cN x y)
      · exact absurd (i2 h a ha) hna
      · omega
    have h2 := e2 (by omega)
    have hL2 : cnt (fun c => dg x y o c == 1) (cN x y) = 2 := by omega
    -- both are ends
    have hda : dg x y o a = 1 := by
      apply Classical.byContradiction
      intro h
      have := (cnt_keep (p := fun c => dg x y o c == 1) (n := cN x y) (a := b) (b := b) fun c hc h' => by
        rcases hends c hc (by simpa using h') with e | e
        · subst e; exact absurd (by simpa using h') h
        · exact .inl e).2 rfl
      omega
    have hdb : dg x y o b = 1 := by
      apply Classical.byContradiction
      intro h
      have := (cnt_keep (p := fun c => dg x y o c == 1) (n := cN x y) (a := a) (b := a) fun c hc h' => by
        rcases hends c hc (by simpa using h') with e | e
        · exact .inl e
        · subst e; exact absurd (by simpa using h') h).2 rfl
      omega
    -- all cells with ways are connected with a
    have hall : ∀ u, u < cN x y → dg x y o u ≠ 0 → Cn x y o a u := fun u hu hd => by
      have he : pt x y o = cnt (isLeast (stN x y o) (cN x y)) (cN x y) := by unfold pt; rw [cp_cnt]
      have hdf := cnt_diff (p := isLeast (stN x y o) (cN x y)) (q := fun c => dg x y o c == 0) (n := cN x y) fun c hc h => iso_least hc (by simpa using h)
      have hone : cnt (fun k => isLeast (stN x y o) (cN x y) k && !(dg x y o k == 0)) (cN x y) ≤ 1 := by omega
      obtain ⟨l, hlu, hcl, hle, -⟩ := least_of (x := x) (y := y) (o := o) hu
      obtain ⟨l', hlu', hcl', hle', -⟩ := least_of (x := x) (y := y) (o := o) ha
      have hdl : dg x y o l ≠ 0 := fun h => by have := iso_cn h (cn_symm hcl); subst this; exact hd h
      have hdl' : dg x y o l' ≠ 0 := fun h => by have := iso_cn h (cn_symm hcl'); subst this; exact hna h
      have := cnt_one hone (show l < cN x y by omega) (show l' < cN x y by omega) (by simp [hle, hdl]) (by simp [hle', hdl'])
      subst this
      exact cn_trans hcl' (cn_symm hcl)
    -- the way
    rcases dZ_spec ha (@stN_lt x y o) b with ⟨_, f⟩ | ⟨D, eD, hDN, hwD, hmin⟩
    · obtain ⟨n, hn⟩ := hcn; exact absurd hn (f n)
    obtain ⟨p, hp0, hpD, hps⟩ := wk_path hwD
    have hD : 1 ≤ D := by
      rcases Nat.eq_zero_or_pos D with h | h
      · subst h; exact absurd (hp0.symm.trans hpD) hab
      · exact h
    have hinj' : ∀ i j, i < j → j ≤ D → p i ≠ p j := fun i j hij hj e => by
      have w1 := path_wk hps 0 i (Nat.zero_le _) (by omega)
      have w2 := path_wk hps j D hj (Nat.le_refl _)
      rw [hp0, e] at w1; rw [hpD] at w2
      have := hmin _ (wk_trans w1 w2)
      omega
    have hlt : ∀ i, i ≤ D → p i < cN x y := fun i hi => by
      rcases Nat.eq_zero_or_pos i with h | h
      · subst h; rw [hp0]; exact ha
      · obtain ⟨q, hq, hs⟩ := hps (i - 1) (by omega)
        rw [show i - 1 + 1 = i by omega] at hs
        exact stN_lt _ _ _ hs
    have hclosed : ∀ i, i ≤ D → ∀ q w : Nat, q < 4 → stN x y o (p i) q = (w : Int) → ∃ j, j ≤ D ∧ w = p j := fun i hi q w hq hs => by
      by_cases hiD : i < D
      · obtain ⟨q1, hq1, hs1⟩ := hps i hiD
        rcases Nat.eq_zero_or_pos i with h | h
        · subst h
          rw [hp0] at hs hs1
          obtain rfl : q = q1 := one_way (Nat.le_of_eq hda) hq hq1 (by rw [hs]; omega) (by rw [hs1]; omega)
          have e1 : (w : Int) = (p 1 : Int) := hs.symm.trans hs1
          exact ⟨1, hD, by omega⟩
        · obtain ⟨q2, hq2, hs2⟩ := hps (i - 1) (by omega)
          rw [show i - 1 + 1 = i by omega] at hs2
          obtain ⟨q3, hq3, hs3⟩ := stN_back hq2 hs2
          have hne : q1 ≠ q3 := fun e => by
            subst e
            exact hinj' (i - 1) (i + 1) (by omega) (by omega) (by omega)
          rcases two_ways (h2 _ (hlt i hi)) hq1 hq3 hq (by rw [hs1]; omega) (by rw [hs3]; omega) (by rw [hs]; omega) hne with e | e
          · subst e; exact ⟨i + 1, by omega, by omega⟩
          · subst e; exact ⟨i - 1, by omega, by omega⟩
      · obtain rfl : i = D := by omega
        obtain ⟨q2, hq2, hs2⟩ := hps (i - 1) (by omega)
        rw [show i - 1 + 1 = i by omega] at hs2
        obtain ⟨q3, hq3, hs3⟩ := stN_back hq2 hs2
        rw [hpD] at hs hs3
        obtain rfl : q = q3 := one_way (Nat.le_of_eq hdb) hq hq3 (by rw [hs]; omega) (by rw [hs3]; omega)
        exact ⟨i - 1, by omega, by omega⟩
    have hreach : ∀ n u, Wk (stN x y o) a n u → ∃ j, j ≤ D ∧ u = p j := fun n u hw => by
      induction hw with
      | zero => exact ⟨0, by omega, hp0.symm⟩
      | @step n u q w _ hq hs ih =>
        obtain ⟨j, hj, rfl⟩ := ih
        exact hclosed j hj q w hq hs
    have hcount : cnt (fun c => !(dg x y o c == 0)) (cN x y) = D + 1 := by
      refine cnt_img p (fun u hu => ?_) (fun i j hi hj e => ?_) fun i hi => hlt i (by omega)
      · refine ⟨fun h => ?_, fun ⟨i, hi, e⟩ => ?_⟩
        · obtain ⟨n, hn⟩ := hall u hu (by simpa using h)
          obtain ⟨j, hj, e⟩ := hreach n u hn
          exact ⟨j, by omega, e⟩
        · subst e
          have : dg x y o (p i) ≠ 0 := by
            by_cases hiD : i < D
            · obtain ⟨q1, hq1, hs1⟩ := hps i hiD
              exact has_way hq1 hs1
            · obtain rfl : i = D := by omega
              rw [hpD]; exact hnb
          simpa using this
      · rcases Nat.lt_trichotomy i j with h | h | h
        · exact absurd e (hinj' i j h (by omega))
        · exact h
        · exact absurd e.symm (hinj' j i h (by omega))
    have hdf := cnt_diff (p := fun _ => true) (q := fun c => dg x y o c == 0) (n := cN x y) fun _ _ _ => rfl
    rw [cnt_all (p := fun _ => true) fun _ _ => rfl] at hdf
    simp only [Bool.true_and] at hdf
    rw [eD]
    unfold lp at hl
    omega
end
end Go.Proofs.Ytkknnikhpembiaa.deadQ
