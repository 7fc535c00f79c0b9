/- Walks without loops, without the program: what the law asks. -/
import Derived.Test.YthfcemihaoijgaaErsP
import Derived.Test.YthfcemihaoijgaaHands
import Derived.Test.YthfcemihaoijgaaPerfP
namespace Go.Proofs.Ythfcemihaoijgaa.ersQ
open gridP gridQ bitP mazeP mazeQ reachP reachM reachN reachD forest deadP deadQ handP perfP wayP ersP
set_option linter.unusedVariables false

section
variable {x y : Int}
theorem step_cn {o g c u q v : Nat} (hk : OkZ x y) (ho : o < 2 ^ gN x y) (hb : bt o g = 1) (hc : c = aN x y g ∨ c = bN x y g) (hq : q < 4) (hs : stN x y o u q = (v : Int)) (huc : u ≠ c) (hvc : v ≠ c) : Cn x y (o - 2 ^ g : Nat) u v := by
  have hne : gpZ x y u q ≠ (g : Int) := fun e => by
    obtain ⟨g', e', _, _, h⟩ := step_gap2 (okm hk ho) hs
    have : g' = g := by omega
    subst this
    rcases h with ⟨h1, h2⟩ | ⟨h1, h2⟩ <;> rcases hc with h | h <;> omega
  have h0 := (op_less (u := u) (q := q) hk ho hb).2 ⟨by rw [hs]; omega, hne⟩
  exact ⟨0 + 1, Wk.step Wk.zero hq (st_val hs h0)⟩
/-- What is nearer to b than c is joined to b without c. -/
theorem near_cn {o g b c : Nat} (hk : OkZ x y) (ho : o < 2 ^ gN x y) (hbt : bt o g = 1) (hc : c = aN x y g ∨ c = bN x y g) (hb : b < cN x y) : ∀ (n u : Nat), dZ (stN x y o) (cN x y) b u = (n : Int) → (n : Int) < dZ (stN x y o) (cN x y) b c → Cn x y (o - 2 ^ g : Nat) u b
  | 0, u, hu, _ => by
    have := (dZ_self hb (@stN_lt x y o) u).1 hu
    subst this; exact cn_refl _ _
  | n + 1, u, hu, hlt => by
    obtain ⟨q, hq, hn⟩ := near_some hb (@stN_lt x y o) (fun u q v => @stN_back x y o u q v) hu
    obtain ⟨h1, h2⟩ := nr_true.1 hn
    obtain ⟨v, hv⟩ := Int.eq_ofNat_of_zero_le h1
    rw [hv, Int.toNat_natCast, hu] at h2
    refine cn_trans (step_cn hk ho hbt hc hq hv (fun e => ?_) (fun e => ?_)) (near_cn hk ho hbt hc hb n v (by omega) (by omega))
    · rw [e] at hu; omega
    · rw [e] at h2; omega
theorem walk_cn {o g c : Nat} (hk : OkZ x y) (ho : o < 2 ^ gN x y) (hbt : bt o g = 1) (hc : c = aN x y g ∨ c = bN x y g) : ∀ (l : List Int) (u : Nat), 0 ≤ wkZ x y o l u → (c : Int) ∉ ceL x y o l u → Cn x y (o - 2 ^ g : Nat) u (wkZ x y o l u).toNat
  | [], u, _, _ => by rw [wkZ_nil, Int.toNat_natCast]; exact cn_refl _ _
  | d :: l, u, hw, hn => by
    obtain ⟨hs, e⟩ := wkZ_begun hw
    rw [e] at hw ⊢
    have hdir := st_dir (show 0 ≤ stZ x y o u d by omega)
    obtain ⟨d', rfl⟩ := Int.eq_ofNat_of_zero_le hdir.1
    obtain ⟨v, hv⟩ := Int.eq_ofNat_of_zero_le (show 0 ≤ stZ x y o u d' by omega)
    simp only [ceL, List.mem_cons, not_or] at hn
    rw [hv] at hw hn ⊢
    have hvc : v ≠ c := fun e => hn.2 (by
      have := List.mem_of_getElem? (ceL_head (x := x) (y := y) (z := o) l (v : Int))
      rw [e] at this ⊢; exact this)
    exact cn_trans (step_cn (q := d') hk ho hbt hc (by omega) hv (fun e => hn.1 (by rw [e])) hvc) (walk_cn hk ho hbt hc l v hw hn.2)
theorem wk_lt {o : Nat} : ∀ (l : List Int) (c : Nat), c < cN x y → 0 ≤ wkZ x y o l c → (wkZ x y o l c).toNat < cN x y
  | [], c, hc, _ => by rw [wkZ_nil, Int.toNat_natCast]; exact hc
  | d :: l, c, hc, hw => by
    obtain ⟨hs, e⟩ := wkZ_begun hw
    rw [e] at hw ⊢
    have hdir := st_dir (show 0 ≤ stZ x y o c d by omega)
    obtain ⟨d', rfl⟩ := Int.eq_ofNat_of_zero_le hdir.1
    obtain ⟨v, hv⟩ := Int.eq_ofNat_of_zero_le (show 0 ≤ stZ x y o c d' by omega)
    rw [hv] at hw ⊢
    exact wk_lt l v (stN_lt c d' v hv) hw
/-- Without loops in the maze, a walk that passes no cell twice is the shortest way. -/
theorem simple_way {o : Nat} (hk : OkZ x y) (ho : o < 2 ^ gN x y) (hl : lp x y o = 0) : ∀ (l : List Int) (c : Nat), c < cN x y → 0 ≤ wkZ x y o l c → (ceL x y o l c).Nodup →
    dZ (stN x y o) (cN x y) (wkZ x y o l c).toNat c = (l.length : Int) ∧ wyN (stN x y o) (cN x y) (wkZ x y o l c).toNat l.length c = l
  | [], c, hc, _, _ => by
    rw [wkZ_nil, Int.toNat_natCast]
    exact ⟨(dZ_self hc (@stN_lt x y o) c).2 rfl, rfl⟩
  | d :: l, c, hc, hw, hnd => by
    obtain ⟨hs, e⟩ := wkZ_begun hw
    rw [e] at hw ⊢
    have hdir := st_dir (show 0 ≤ stZ x y o c d by omega)
    obtain ⟨d', rfl⟩ := Int.eq_ofNat_of_zero_le hdir.1
    obtain ⟨v, hv⟩ := Int.eq_ofNat_of_zero_le (show 0 ≤ stZ x y o c d' by omega)
    have hd4 : d' < 4 := by omega
    have hsN : stN x y o c d' = (v : Int) := hv
    have hvN := stN_lt c d' v hsN
    simp only [ceL, List.nodup_cons] at hnd
    rw [hv] at hw hnd ⊢
    obtain ⟨h1, h2⟩ := simple_way hk ho hl l v hvN hw hnd.2
    have hbN := wk_lt l v hvN hw
    have hlast := ceL_last (x := x) (y := y) (z := o) (l := l) (c := (v : Int)) (by omega) hw
    obtain ⟨b, hbe⟩ := Int.eq_ofNat_of_zero_le hw
    have hbt : (wkZ x y o l v).toNat = b := by rw [hbe]; simp
    rw [hbt] at h1 h2 hbN ⊢
    have hbc : c ≠ b := fun e' => hnd.1 (by
      have := List.mem_of_getElem? hlast
      rw [hbe] at this; rw [e']; exact this)
    have hF : ∀ u q v : Nat, stN x y o u q = (v : Int) → v < cN x y := @stN_lt x y o
    have hv' := okm hk ho
    -- how far c is
    obtain ⟨k, hk1⟩ : ∃ k : Nat, dZ (stN x y o) (cN x y) b c = ((k + 1 : Nat) : Int) := by
      obtain ⟨n, hn⟩ := (dZ_pos hbN hF v).1 (by rw [h1]; omega)
      obtain ⟨q', hq', hs'⟩ := stN_back hd4 hsN
      rcases dZ_spec hbN hF c with ⟨g1, g2⟩ | ⟨m, g1, _, g3, g4⟩
      · exact absurd (Wk.step hn hq' hs') (g2 _)
      · have h0 : m ≠ 0 := fun e' => hbc ((dZ_self hbN hF c).1 (by rw [g1, e']; rfl))
        exact ⟨m - 1, by rw [g1]; congr 1; omega⟩
    obtain ⟨g, e1, e2, e3, e4⟩ := step_gap2 hv' hsN
    have hcg : c = aN x y g ∨ c = bN x y g := by rcases e4 with ⟨h, _⟩ | ⟨h, _⟩ <;> omega
    have hnear : ∀ q', q' < 4 → nrB (stN x y o) (cN x y) b c q' = true → q' = d' := fun q' hq' hn => by
      obtain ⟨n1, n2⟩ := nr_true.1 hn
      obtain ⟨v', hv''⟩ := Int.eq_ofNat_of_zero_le n1
      have hs' : stN x y o c q' = (v' : Int) := hv''
      rw [hv'', Int.toNat_natCast, hk1] at n2
      by_cases hg : gpZ x y c q' = (g : Int)
      · exact gap_uniq hk hc e2 hq' hd4 hg e1
      · exfalso
        have h0 := (op_less (u := c) (q := q') hk ho e3).2 ⟨by rw [hs']; omega, hg⟩
        have c1 : Cn x y (o - 2 ^ g : Nat) c v' := ⟨0 + 1, Wk.step Wk.zero hq' (st_val hs' h0)⟩
        have c2 := near_cn hk ho e3 hcg hbN k v' (by omega) (by omega)
        have c3 := walk_cn hk ho e3 hcg l v hw hnd.1
        rw [hbt] at c3
        have c4 := cn_trans (cn_trans c1 c2) (cn_symm c3)
        refine (all_bridges hk ho).2 hl g e2 e3 ?_
        rcases e4 with ⟨h, h'⟩ | ⟨h, h'⟩
        · rw [← h, ← h']; exact c4
        · rw [← h, ← h']; exact cn_symm c4
    obtain ⟨q', hq', hn⟩ := near_some hbN hF (fun u q v => @stN_back x y o u q v) hk1
    obtain rfl := hnear q' hq' hn
    have hn2 := (nr_true.1 hn).2
    rw [hsN, Int.toNat_natCast, h1, hk1] at hn2
    refine ⟨?_, ?_⟩
    · rw [hk1]; simp; omega
    · simp only [List.length_cons, wyN]
      rw [fq_is hq' hn (fun r hr => by
        rw [← Bool.not_eq_true]
        intro h
        have := hnear r (by omega) h
        omega), hsN, Int.toNat_natCast, h2]
end

section
variable {x y z : Int}
/-- The directions along cells lead along them. -/
theorem walk_dirs : ∀ (t : List Int) (a : Int), hasB x y z a = true → (∀ i p q, (a :: t)[i]? = some p → (a :: t)[i + 1]? = some q → Rr x y z p q) → ceL x y z (dwL x y (a :: t)) a = a :: t ∧ 0 ≤ wkZ x y z (dwL x y (a :: t)) a
  | [], a, ha, _ => by
    obtain ⟨hv, k, rfl, _⟩ := has_form ha
    exact ⟨rfl, by show 0 ≤ wkZ x y z [] (k : Int); rw [wkZ_nil]; omega⟩
  | b :: t, a, ha, h => by
    have hr := h 0 a b rfl rfl
    obtain ⟨hv, i, j, d, rfl, rfl, hiN, hjN, hd, hs, hdz, hne, hu⟩ := rr_nat hr
    have hsz : stZ x y z i d = (j : Int) := hs
    have hhb : hasB x y z j = true := by
      have := (nn2 hv.1).1
      exact decide_eq_true ⟨hv, by omega, by omega⟩
    obtain ⟨h1, h2⟩ := walk_dirs t j hhb (fun k p q hp hq => h (k + 1) p q (by simpa using hp) (by simpa using hq))
    simp only [dwL]
    rw [hdz]
    refine ⟨?_, ?_⟩
    · simp only [ceL]; rw [hsz, h1]
    · rw [wkZ_go (by rw [hsz]; omega), hsz]; exact h2
/-- What the law asks. -/
theorem erased {a : Int} {l : List Int} (ha : hasB x y z a = true) (hl : l.length ≤ 11) (hw : 0 ≤ wkZ x y z l a) :
    ∃ b : Int, (coL x y z a l).length = l.length + 1 ∧ (coL x y z a l)[0]? = some a ∧ (coL x y z a l)[l.length]? = some b ∧
    0 < (erL (coL x y z a l)).length ∧ (erL (coL x y z a l)).length ≤ 12 ∧ (erL (coL x y z a l))[0]? = some a ∧ (erL (coL x y z a l))[(erL (coL x y z a l)).length - 1]? = some b ∧
    smB (erL (coL x y z a l)) = true ∧ (ewL x y z a l).length = (erL (coL x y z a l)).length - 1 ∧ ewB x y z a l = true ∧
    wwB x y z a (ewL x y z a l) = true ∧ wwZ x y z a (ewL x y z a l) = b ∧ (ipB x y z = true → wbL x y z a b = ewL x y z a l) ∧ erL (erL (coL x y z a l)) = erL (coL x y z a l) := by
  have hww : wwB x y z a l = true := by unfold wwB; rw [ha, decide_eq_true (show l.length ≤ 400 by omega), decide_eq_true hw]; rfl
  have hco : coL x y z a l = ceL x y z l a := by unfold coL; rw [if_pos hww]
  have ha0 : 0 ≤ a := (of_decide_eq_true ha).2.1
  have hcl : (coL x y z a l).length = l.length + 1 := by rw [hco, ceL_len]
  have hc0 : (coL x y z a l)[0]? = some a := by rw [hco, ceL_head]
  have hcb : (coL x y z a l)[l.length]? = some (wkZ x y z l a) := by rw [hco, ceL_last ha0 hw]
  obtain ⟨e1, e2, e3⟩ := er_ends (coL x y z a l) (by omega)
  rw [hcl, Nat.add_sub_cancel, hcb] at e3
  rw [hc0] at e2
  have hel := er_len (coL x y z a l)
  have hnd := er_nodup (coL x y z a l)
  have hst := @er_steps x y z a l
  have hwl : (ewL x y z a l).length = (erL (coL x y z a l)).length - 1 := dw_len _ _ _
  have hwd : ceL x y z (ewL x y z a l) a = erL (coL x y z a l) ∧ 0 ≤ wkZ x y z (ewL x y z a l) a := by
    unfold ewL
    cases hE : erL (coL x y z a l) with
    | nil => rw [hE] at e1; simp at e1
    | cons p t =>
      rw [hE] at e2 hst
      obtain rfl : p = a := by simpa using e2
      exact walk_dirs t p ha hst
  have hlast : wkZ x y z (ewL x y z a l) a = wkZ x y z l a := by
    have := ceL_last ha0 hwd.2
    rw [hwd.1, hwl, e3] at this
    exact (Option.some.inj this).symm
  have hwe : wwB x y z a (ewL x y z a l) = true := by unfold wwB; rw [ha, decide_eq_true (show (ewL x y z a l).length ≤ 400 by omega), decide_eq_true hwd.2]; rfl
  refine ⟨wkZ x y z l a, hcl, hc0, hcb, e1, by omega, e2, e3, decide_eq_true hnd, hwl, decide_eq_true e1, hwe, ?_, fun hp => ?_, er_same hnd⟩
  · unfold wwZ; rw [if_pos hwe, hlast]
  · obtain ⟨hv, k, rfl, hi, hiN, hak, hN16, hNN⟩ := has_form ha
    obtain ⟨hk, o, rfl, ho⟩ := okm_of hv
    have hpf := (perfects hv).2.2.2
    rw [hpf, Bool.and_eq_true, beq_iff_eq, cl_lp hk ho] at hp
    have hnd2 : (ceL x y o (ewL x y o k l) k).Nodup := by rw [hwd.1]; exact hnd
    obtain ⟨s1, s2⟩ := simple_way hk ho hp.2 (ewL x y o k l) k hiN hwd.2 hnd2
    have hbN := wk_lt (ewL x y o k l) k hiN hwd.2
    rw [hlast] at s1 s2 hbN
    obtain ⟨b, hbe⟩ := Int.eq_ofNat_of_zero_le hw
    have hbt : (wkZ x y o l k).toNat = b := by rw [hbe]; simp
    rw [hbt] at s1 s2 hbN
    have hhb : hasB x y o b = true := decide_eq_true ⟨hv, by omega, by omega⟩
    have hds := ds_form ha hhb
    have e5 : (k : Int).toNat = k := by simp
    have e6 : (b : Int).toNat = b := by simp
    rw [e5, e6, s1] at hds
    have hb : wbB x y o k b = true := decide_eq_true (by rw [hds]; omega)
    rw [hbe]
    unfold wbL
    rw [if_pos hb, e5, e6, s1, Int.toNat_natCast, s2]
end
end Go.Proofs.Ythfcemihaoijgaa.ersQ
