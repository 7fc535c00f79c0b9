/- First entries, without the program: what the law asks. -/
import Derived.Test.YtgocbnnhhpmndaaEntP
import Derived.Test.YtgocbnnhhpmndaaPopQ
namespace Go.Proofs.Ytgocbnnhhpmndaa.entQ
open gridP gridQ bitP mazeP mazeQ mazeM reachP reachM reachN reachD forest perfP wayP ersP popP popQ entP
set_option linter.unusedVariables false

section
variable {x y : Int} {l w : List Int}
/-- A walk's cells and steps. -/
structure Tw (x y : Int) (l w : List Int) : Prop where
  ok : OkZ x y
  len : l.length = w.length + 1
  rng : ∀ u ∈ l, 0 ≤ u ∧ u < x * y
  nb : ∀ k, k < w.length → nbZ x y (atN l k) (atN w k) = atN l (k + 1)
theorem ce_nb : ∀ (w : List Int) (c : Int), hasB x y (topZ x y) c = true → 0 ≤ wkZ x y (topZ x y) w c → ∀ k, k < w.length → nbZ x y (atN (ceL x y (topZ x y) w c) k) (atN w k) = atN (ceL x y (topZ x y) w c) (k + 1)
  | [], c, _, _, k, hk => absurd hk (by simp)
  | d :: w, c, hc, hw, k, hk => by
    obtain ⟨hs, e⟩ := wkZ_begun hw
    rw [e] at hw
    have hdir := st_dir (show 0 ≤ stZ x y (topZ x y) c d by omega)
    obtain ⟨d', rfl⟩ := Int.eq_ofNat_of_zero_le hdir.1
    obtain ⟨hv, i, rfl, _⟩ := has_form hc
    obtain ⟨v, hv'⟩ := Int.eq_ofNat_of_zero_le (show 0 ≤ stZ x y (topZ x y) i d' by omega)
    have hvN : v < cN x y := stN_lt i d' v hv'
    have hhs : hasB x y (topZ x y) (stZ x y (topZ x y) i d') = true := by
      rw [hv']; have := (nn2 hv.1).1; exact decide_eq_true ⟨hv, by omega, by omega⟩
    simp only [ceL]
    rcases k with _ | k
    · show nbZ x y i d' = atN (ceL x y (topZ x y) w (stZ x y (topZ x y) i d')) 0
      rw [at_is (ceL_head w _), st_nb2 (show 0 ≤ stZ x y (topZ x y) i d' by omega)]
    · show nbZ x y (atN (ceL x y (topZ x y) w (stZ x y (topZ x y) i d')) k) (atN w k) = atN (ceL x y (topZ x y) w (stZ x y (topZ x y) i d')) (k + 1)
      exact ce_nb w _ hhs hw k (by simpa using hk)
theorem tw_tw {c : Int} (h : twB x y c w = true) : Tw x y (twL x y c w) w := by
  have hk := tw_ok h
  obtain ⟨e1, e2, e3⟩ := fm_is hk
  refine ⟨hk, tw_len h, ?_, ?_⟩
  · unfold twL; rw [e1, e2, e3]
    intro u hu
    have := of_decide_eq_true (co_has u hu)
    exact ⟨this.2.1, this.2.2⟩
  · unfold twL twB at *
    rw [e1, e2, e3] at h ⊢
    unfold coL
    rw [if_pos h]
    unfold wwB at h
    simp only [Bool.and_eq_true, decide_eq_true_iff] at h
    exact ce_nb w c h.1 h.2.2
theorem Tw.at_rng (h : Tw x y l w) {k : Nat} (hk : k ≤ w.length) : 0 ≤ atN l k ∧ atN l k < x * y := h.rng _ (at_mem (by have := h.len; omega))
theorem Tw.gap (h : Tw x y l w) {k : Nat} (hk : k < w.length) : ∃ g : Nat, geZ x y l w k = g ∧ g < gN x y ∧
    (((atN l k).toNat = aN x y g ∧ (atN l (k + 1)).toNat = bN x y g) ∨ ((atN l k).toNat = bN x y g ∧ (atN l (k + 1)).toNat = aN x y g)) := by
  have hn := h.nb k hk
  have hr := h.at_rng (show k ≤ w.length by omega)
  have hr' := h.at_rng (show k + 1 ≤ w.length by omega)
  have hneg : ¬ nbZ x y (atN l k) (atN w k) < 0 := by rw [hn]; omega
  obtain ⟨b1, b2, b3, b4, b5, b6⟩ := both x y (atN l k) (atN w k) hneg
  have hlt := gp_lt x y (atN l k) (atN w k) hneg
  have hge : geZ x y l w k = gpZ x y (atN l k) (atN w k) := rfl
  refine ⟨(geZ x y l w k).toNat, by omega, by unfold gN; omega, ?_⟩
  have hg : (geZ x y l w k).toNat < gN x y := by unfold gN; omega
  have he := (ends_lt h.ok hg).2.2
  rw [show ((geZ x y l w k).toNat : Int) = gpZ x y (atN l k) (atN w k) by omega] at he
  have hne := nb_ne (x := x) (y := y) (atN l k) (atN w k)
  rw [hn] at b6 hne
  rcases b5 with e | e
  · left
    rcases b6 with e' | e' <;> omega
  · right
    rcases b6 with e' | e' <;> omega
/-- The open gaps of first entries. -/
theorem fe_bits (h : Tw x y l w) : ∀ k, k ≤ w.length → ∃ m : Nat, feO x y l w k = (m : Int) ∧ m < 2 ^ gN x y ∧ pcN m (gN x y) + 1 ≤ frN l (k + 1) ∧
    (∀ j, j < gN x y → (bt m j = 1 ↔ ∃ i, i < k ∧ atN l (i + 1) ∉ l.take (i + 1) ∧ geZ x y l w i = j)) ∧ ∀ i, i ≤ k → Cn x y m (atN l i).toNat (atN l 0).toNat
  | 0, _ => by
    refine ⟨0, rfl, Nat.pow_pos (by decide), ?_, fun j hj => ?_, fun i hi => ?_⟩
    · rw [pc_zero, fr_out (by simp)]; omega
    · rw [bt_zero]
      exact ⟨fun h => absurd h (by decide), fun ⟨i, hi, _⟩ => absurd hi (by omega)⟩
    · obtain rfl : i = 0 := by omega
      exact cn_refl _ _
  | k + 1, hk => by
    obtain ⟨m, e, hm, hpc, hb, hc⟩ := fe_bits h k (by omega)
    by_cases hin : atN l (k + 1) ∈ l.take (k + 1)
    · refine ⟨m, by rw [fe_in hin, e], hm, by rw [fr_in hin]; exact hpc, fun j hj => ?_, fun i hi => ?_⟩
      · rw [hb j hj]
        constructor
        · rintro ⟨i, h1, h2⟩; exact ⟨i, by omega, h2⟩
        · rintro ⟨i, h1, h2, h3⟩
          rcases Nat.lt_or_ge i k with h' | h'
          · exact ⟨i, h', h2, h3⟩
          · obtain rfl : i = k := by omega
            exact absurd hin h2
      · rcases Nat.lt_or_ge i (k + 1) with h' | h'
        · exact hc i (by omega)
        · obtain rfl : i = k + 1 := by omega
          obtain ⟨j, hj⟩ := List.getElem?_of_mem hin
          have hjl := (List.getElem?_eq_some_iff.1 hj).1
          rw [List.length_take] at hjl
          rw [List.getElem?_take, if_pos (by omega)] at hj
          rw [← at_is hj]
          exact hc j (by omega)
    · obtain ⟨g, eg, hg, hends⟩ := h.gap (show k < w.length by omega)
      obtain ⟨m', e', hm', hpc', hb'⟩ := sg_open h.ok hm hg
      have hmono : ∀ {u v}, Cn x y m u v → Cn x y m' u v := fun hcn => cn_mono (okm h.ok hm) (okm h.ok hm') (fun j hj hj1 => (hb' j hj).2 (.inl hj1)) hcn
      refine ⟨m', by rw [fe_out hin, e, eg, e'], hm', by rw [fr_out hin]; omega, fun j hj => ?_, fun i hi => ?_⟩
      · rw [hb' j hj, hb j hj]
        constructor
        · rintro (⟨i, h1, h2⟩ | rfl)
          · exact ⟨i, by omega, h2⟩
          · exact ⟨k, by omega, hin, eg⟩
        · rintro ⟨i, h1, h2, h3⟩
          rcases Nat.lt_or_ge i k with h' | h'
          · exact .inl ⟨i, h', h2, h3⟩
          · obtain rfl : i = k := by omega
            right; omega
      · rcases Nat.lt_or_ge i (k + 1) with h' | h'
        · exact hmono (hc i (by omega))
        · obtain rfl : i = k + 1 := by omega
          have hgc := cn_gap (okm h.ok hm') hg ((hb' g hg).2 (.inr rfl))
          have hk0 := hmono (hc k (Nat.le_refl _))
          rcases hends with ⟨h1, h2⟩ | ⟨h1, h2⟩
          · rw [h2]; rw [h1] at hk0; exact cn_trans (cn_symm hgc) hk0
          · rw [h2]; rw [h1] at hk0; exact cn_trans hgc hk0
/-- The open gaps of last exits. -/
theorem le_bits (h : Tw x y l w) : ∀ k, k ≤ w.length → ∃ m : Nat, leO x y l w k = (m : Int) ∧ m < 2 ^ gN x y ∧
    (∀ j, j < gN x y → (bt m j = 1 ↔ ∃ i, i < k ∧ atN l i ∉ l.drop (i + 1) ∧ geZ x y l w i = j))
  | 0, _ => by
    refine ⟨0, rfl, Nat.pow_pos (by decide), fun j hj => ?_⟩
    rw [bt_zero]
    exact ⟨fun h => absurd h (by decide), fun ⟨i, hi, _⟩ => absurd hi (by omega)⟩
  | k + 1, hk => by
    obtain ⟨m, e, hm, hb⟩ := le_bits h k (by omega)
    by_cases hin : atN l k ∈ l.drop (k + 1)
    · refine ⟨m, by rw [le_in hin, e], hm, fun j hj => ?_⟩
      rw [hb j hj]
      constructor
      · rintro ⟨i, h1, h2⟩; exact ⟨i, by omega, h2⟩
      · rintro ⟨i, h1, h2, h3⟩
        rcases Nat.lt_or_ge i k with h' | h'
        · exact ⟨i, h', h2, h3⟩
        · obtain rfl : i = k := by omega
          exact absurd hin h2
    · obtain ⟨g, eg, hg, hends⟩ := h.gap (show k < w.length by omega)
      obtain ⟨m', e', hm', hpc', hb'⟩ := sg_open h.ok hm hg
      refine ⟨m', by rw [le_out hin, e, eg, e'], hm', fun j hj => ?_⟩
      rw [hb' j hj, hb j hj]
      constructor
      · rintro (⟨i, h1, h2⟩ | rfl)
        · exact ⟨i, by omega, h2⟩
        · exact ⟨k, by omega, hin, eg⟩
      · rintro ⟨i, h1, h2, h3⟩
        rcases Nat.lt_or_ge i k with h' | h'
        · exact .inl ⟨i, h', h2, h3⟩
        · obtain rfl : i = k := by omega
          right; omega

/-! ### how many cells there are -/
theorem Tw.fr_most (h : Tw x y l w) : frN l l.length ≤ cN x y := by
  rw [← fc_len]
  refine int_nodup (fc_nodup l _ (Nat.le_refl _)) fun u hu => ?_
  have h1 := h.rng u (by have := (fc_mem l l.length (Nat.le_refl _) u).1 hu; rwa [List.take_of_length_le (Nat.le_refl _)] at this)
  have h2 := (nn2 h.ok).1
  omega
/-- A walk that has been everywhere has been in each cell. -/
theorem Tw.all (h : Tw x y l w) (he : frN l l.length = cN x y) {u : Int} (hu : 0 ≤ u ∧ u < x * y) : u ∈ l := by
  have h2 := (nn2 h.ok).1
  apply Classical.byContradiction
  intro hn
  have hm := fun v => fc_mem l l.length (Nat.le_refl _) v
  rw [List.take_of_length_le (Nat.le_refl _)] at hm
  have := int_nodup (L := u :: fcL l l.length) (N := cN x y) (List.nodup_cons.2 ⟨fun h' => hn ((hm u).1 h'), fc_nodup l _ (Nat.le_refl _)⟩) fun v hv => by
    rcases List.mem_cons.1 hv with rfl | hv
    · omega
    · have := h.rng v ((hm v).1 hv); omega
  rw [List.length_cons, fc_len] at this
  omega
/-- The maze is perfect just if the walk has been everywhere. -/
theorem Tw.perfect (h : Tw x y l w) : ipB x y (feO x y l w w.length) = decide (frN l l.length = cN x y) := by
  obtain ⟨m, e, hm, hpc, hb, hc⟩ := fe_bits h w.length (Nat.le_refl _)
  have hmost := h.fr_most
  have hN := nn2 h.ok
  rw [← h.len] at hpc
  rw [e]
  by_cases hall : frN l l.length = cN x y
  · rw [decide_eq_true hall]
    have hz : ∀ k : Nat, k < cN x y → Cn x y m k (atN l 0).toNat := fun k hk => by
      obtain ⟨i, hi⟩ := List.getElem?_of_mem (h.all hall (u := (k : Int)) (by omega))
      have hil := (List.getElem?_eq_some_iff.1 hi).1
      have := hc i (by have := h.len; omega)
      rw [at_is hi, Int.toNat_natCast] at this
      exact this
    have hpt : pt x y m = 1 := by
      unfold pt
      rw [cpN_one _ _ _ (by omega)]
      intro k hk0 hkN
      rw [← Bool.not_eq_true, least_iff hkN]
      exact fun hh => hh 0 hk0 (cn_trans (hz k hkN) (cn_symm (hz 0 (by omega))))
    have hlp := lp_pos h.ok hm
    refine (ip_is' h.ok hm).2 ⟨?_, hpt⟩
    unfold lp at hlp ⊢
    rw [hpt] at hlp ⊢
    omega
  · rw [decide_eq_false hall, ← Bool.not_eq_true, ip_is' h.ok hm]
    rintro ⟨h1, h2⟩
    unfold lp at h1
    rw [h2] at h1
    omega

/-! ### backwards -/
theorem ce_rev {z : Int} : ∀ (w : List Int) (c : Int), 0 ≤ c → 0 ≤ wkZ x y z w c → ceL x y z (rvL w) (wkZ x y z w c) = (ceL x y z w c).reverse
  | [], c, _, _ => rfl
  | d :: w, c, hc, h => by
    obtain ⟨hs, e0⟩ := wkZ_begun h
    rw [e0] at h ⊢
    have h0 : 0 ≤ stZ x y z c d := by omega
    have h1 := wk_back h0 h
    have h2 := ce_rev w _ h0 h
    have e : rvL (d :: w) = rvL w ++ [(d + 2) % 4] := by simp [rvL]
    rw [e, ceL_snoc h (by rw [h1]; exact h0), h1, step_back h0, h2]
    simp [ceL]
/-- A walk goes back the same way. -/
theorem tw_back {c : Int} (h : twB x y c w = true) : twB x y (twZ x y c w) (rvL w) = true ∧ twL x y (twZ x y c w) (rvL w) = (twL x y c w).reverse ∧ twZ x y (twZ x y c w) (rvL w) = c ∧ rwL w = rvL w ∧ rvL (rvL w) = w := by
  have hk := tw_ok h
  obtain ⟨e1, e2, e3⟩ := fm_is hk
  unfold twB twL twZ at *
  rw [e1, e2, e3] at h ⊢
  have h' := h
  unfold wwB at h'
  simp only [Bool.and_eq_true, decide_eq_true_iff] at h'
  obtain ⟨ha, hl, hw⟩ := h'
  obtain ⟨hv, k, rfl, _⟩ := has_form ha
  have hz : wwZ x y (topZ x y) k w = wkZ x y (topZ x y) w k := by unfold wwZ; rw [if_pos h]
  have hway := wk_way (show (0 : Int) ≤ (k : Int) by omega) hw
  have hb : hasB x y (topZ x y) (wkZ x y (topZ x y) w k) = true := by
    have h1 : wkZ x y (topZ x y) w k ∈ coL x y (topZ x y) k w := by
      unfold coL; rw [if_pos h]
      exact List.mem_of_getElem? (ceL_last (by omega) hw)
    exact co_has _ h1
  have hbk := wk_back (show (0 : Int) ≤ (k : Int) by omega) hw
  rw [hz]
  have hw2 : wwB x y (topZ x y) (wkZ x y (topZ x y) w k) (rvL w) = true := by
    unfold wwB; rw [hb, rv_len, decide_eq_true hl, hbk, decide_eq_true (show (0 : Int) ≤ (k : Int) by omega)]; rfl
  refine ⟨hw2, ?_, ?_, ?_, rv_rv hway⟩
  · unfold coL; rw [if_pos hw2, if_pos h, ce_rev w _ (by omega) hw]
  · unfold wwZ; rw [if_pos hw2, hbk]
  · unfold rwL; rw [if_pos hway]
theorem at_rev {k : Nat} (hk : k < l.length) : atN l.reverse k = atN l (l.length - 1 - k) := by
  unfold atN; rw [List.getElem?_reverse hk]
theorem at_rv {k : Nat} (hk : k < w.length) : atN (rvL w) k = (atN w (w.length - 1 - k) + 2) % 4 := by
  unfold rvL
  have h1 : (w.reverse.map fun d => (d + 2) % 4)[k]? = some ((atN w (w.length - 1 - k) + 2) % 4) := by
    rw [List.getElem?_map, List.getElem?_reverse hk, at_some (show w.length - 1 - k < w.length by omega)]; rfl
  exact at_is h1
/-- The last exits of a walk are the first entries of the walk back. -/
theorem le_is_fe (h : Tw x y l w) (h' : Tw x y l.reverse (rvL w)) : leO x y l w w.length = feO x y l.reverse (rvL w) w.length := by
  obtain ⟨m, e, hm, hb⟩ := le_bits h w.length (Nat.le_refl _)
  obtain ⟨m', e', hm', -, hb', -⟩ := fe_bits h' w.length (by rw [rv_len]; exact Nat.le_refl _)
  rw [e, e']
  have hlen := h.len
  have key : ∀ i, i < w.length → (atN l.reverse (i + 1) ∉ l.reverse.take (i + 1) ↔ atN l (w.length - 1 - i) ∉ l.drop (w.length - 1 - i + 1)) ∧ geZ x y l.reverse (rvL w) i = geZ x y l w (w.length - 1 - i) := fun i hi => by
    constructor
    · rw [at_rev (by omega), List.take_reverse, List.mem_reverse, show l.length - 1 - (i + 1) = w.length - 1 - i by omega, show l.length - (i + 1) = w.length - 1 - i + 1 by omega]
    · unfold geZ
      rw [at_rev (by omega), at_rv hi, show l.length - 1 - i = w.length - 1 - i + 1 by omega]
      have hn := h.nb (w.length - 1 - i) (by omega)
      have hr := h.at_rng (show w.length - 1 - i + 1 ≤ w.length by omega)
      rw [← hn]
      exact (both x y (atN l (w.length - 1 - i)) (atN w (w.length - 1 - i)) (by rw [hn]; omega)).2.2.1
  have : m = m' := bt_ext' hm hm' fun j hj => by
    rw [hb j hj, hb' j hj]
    constructor
    · rintro ⟨i, h1, h2, h3⟩
      obtain ⟨k1, k2⟩ := key (w.length - 1 - i) (by omega)
      rw [show w.length - 1 - (w.length - 1 - i) = i by omega] at k1 k2
      exact ⟨w.length - 1 - i, by omega, k1.2 h2, k2.trans h3⟩
    · rintro ⟨i, h1, h2, h3⟩
      obtain ⟨k1, k2⟩ := key i h1
      exact ⟨w.length - 1 - i, by omega, k1.1 h2, k2.symm.trans h3⟩
  rw [this]
theorem le_fe {c : Int} (h : twB x y c w = true) : leZ x y c w = feZ x y (twZ x y c w) (rvL w) ∧ leB x y c w = feB x y (twZ x y c w) (rvL w) ∧ feX x y c w = feX x y (twZ x y c w) (rvL w) ∧ feY x y c w = feY x y (twZ x y c w) (rvL w) := by
  obtain ⟨h1, h2, h3, h4, h5⟩ := tw_back h
  have he : leZ x y c w = feZ x y (twZ x y c w) (rvL w) := by
    have hT := tw_tw h
    have hT' := tw_tw h1
    unfold leZ feZ
    rw [if_pos h, if_pos h1, h2, rv_len]
    rw [h2] at hT'
    exact le_is_fe hT hT'
  refine ⟨he, ?_, ?_, ?_⟩
  · unfold leB feB; rw [he, h, h1]
  · unfold feX; rw [if_pos h, if_pos h1]
  · unfold feY; rw [if_pos h, if_pos h1]

/-! ### the time -/
theorem ct_cases {c : Int} (h : twB x y c w = true) : (frN (twL x y c w) (twL x y c w).length = cN x y → ∃ j : Nat, j < (twL x y c w).length ∧ (fsL (twL x y c w) (twL x y c w).length)[cN x y - 1]? = some (j : Int) ∧ ctZ x y c w = j ∧ cN x y ≤ j + 1) ∧
    (frN (twL x y c w) (twL x y c w).length ≠ cN x y → ctZ x y c w = -1) := by
  have hT := tw_tw h
  have hN := nn2 hT.ok
  have hmost := hT.fr_most
  generalize hL : twL x y c w = L at *
  constructor
  · intro he
    obtain ⟨j, h1, h2, h3, h4⟩ := fs_last L L.length (by omega)
    refine ⟨j, h1, by rw [← he]; exact h2, ?_, by have := fr_le L (j + 1); omega⟩
    refine ct_some (by rw [hL]; exact h1) (by rw [hL, h3]; omega) fun i hi => ?_
    rw [hL]
    have := fr_mono L j (show i + 1 ≤ j by omega)
    omega
  · intro he
    refine ct_none fun j hj => ?_
    rw [hL] at hj ⊢
    have := fr_mono L L.length (show j + 1 ≤ L.length by omega)
    omega
theorem snake_fin : ∀ a b : Fin 4, ctZ ((a : Nat) + 1) ((b : Nat) + 1) 0 (snL ((a : Nat) + 1) ((b : Nat) + 1)) = ((a : Nat) + 1) * ((b : Nat) + 1) - 1 := by decide +kernel
theorem snake (hk : OkZ x y) : ctZ x y 0 (snL x y) = x * y - 1 := by
  obtain ⟨h1, h2, h3, h4⟩ := hk
  obtain ⟨a, rfl⟩ : ∃ a : Fin 4, x = (a : Nat) + 1 := ⟨⟨(x - 1).toNat, by omega⟩, by simp; omega⟩
  obtain ⟨b, rfl⟩ : ∃ b : Fin 4, y = (b : Nat) + 1 := ⟨⟨(y - 1).toNat, by omega⟩, by simp; omega⟩
  exact snake_fin a b
/-- What the law asks. -/
theorem entries {c : Int} (h : twB x y c w = true) :
    feX x y c w = x ∧ feY x y c w = y ∧ rwL w = rvL w ∧ (rvL w).length = w.length ∧ feB x y c w = decide (0 ≤ ctZ x y c w) ∧
    feX x y (twZ x y c w) (rvL w) = x ∧ feY x y (twZ x y c w) (rvL w) = y ∧ leZ x y (twZ x y c w) (rvL w) = feZ x y c w ∧ leB x y (twZ x y c w) (rvL w) = feB x y c w ∧
    -1 ≤ ctZ x y c w ∧ ctZ x y c w ≤ w.length ∧ (ctZ x y c w < 0 ∨ x * y - 1 ≤ ctZ x y c w) ∧ ctZ x y 0 (snL x y) = x * y - 1 := by
  have hT := tw_tw h
  have hN := nn2 hT.ok
  obtain ⟨h1, h2, h3, h4, h5⟩ := tw_back h
  obtain ⟨l1, l2, l3, l4⟩ := le_fe h1
  rw [h3, h5] at l1 l2
  obtain ⟨c1, c2⟩ := ct_cases h
  have hp := hT.perfect
  have hlen := hT.len
  have hfb : feB x y c w = decide (frN (twL x y c w) (twL x y c w).length = cN x y) := by
    unfold feB feZ; rw [h, if_pos rfl, hp]; rfl
  have hX : ∀ {c w}, twB x y c w = true → feX x y c w = x ∧ feY x y c w = y := fun h => by unfold feX feY; rw [if_pos h, if_pos h]; exact ⟨rfl, rfl⟩
  refine ⟨(hX h).1, (hX h).2, h4, rv_len w, ?_, (hX h1).1, (hX h1).2, l1, l2, ?_⟩
  · rw [hfb]
    by_cases he : frN (twL x y c w) (twL x y c w).length = cN x y
    · obtain ⟨j, g1, g2, g3, g4⟩ := c1 he
      rw [decide_eq_true he, decide_eq_true (by omega)]
    · rw [decide_eq_false he, decide_eq_false (by rw [c2 he]; omega)]
  · by_cases he : frN (twL x y c w) (twL x y c w).length = cN x y
    · obtain ⟨j, g1, g2, g3, g4⟩ := c1 he
      exact ⟨by omega, by omega, by omega, snake hT.ok⟩
    · rw [c2 he]
      exact ⟨by omega, by omega, by omega, snake hT.ok⟩
end
end Go.Proofs.Ytgocbnnhhpmndaa.entQ
