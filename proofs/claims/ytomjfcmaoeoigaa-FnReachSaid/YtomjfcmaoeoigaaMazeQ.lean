/- The numbers of mazes, without the program: all cells together have twice as many ways as there are passages, and what the law of mazes asks of one gap. -/
import Derived.Test.YtomjfcmaoeoigaaMazeP
import Derived.Test.YtomjfcmaoeoigaaGridQ
namespace Go.Proofs.Ytomjfcmaoeoigaa.mazeQ
open gridP gridQ bitP mazeP

/-- The gaps at a cell, in the order of the directions below d. -/
def gl (w h k : Int) : Nat → List Nat
  | 0 => []
  | d + 1 => gl w h k d ++ (if nbZ w h k d < 0 then [] else [(gpZ w h k d).toNat])
/-- The gaps at the first k cells. -/
def gll (w h : Int) : Nat → List Nat
  | 0 => []
  | k + 1 => gll w h k ++ gl w h k 4
def bt (n g : Nat) : Nat := n / 2 ^ g % 2
theorem sum_perm (f : Nat → Nat) {a b : List Nat} (h : a.Perm b) : (a.map f).sum = (b.map f).sum := by
  induction h with
  | nil => rfl
  | cons x _ ih => simp [ih]
  | swap x y l => simp; omega
  | trans _ _ ih1 ih2 => exact ih1.trans ih2
theorem pc_sum (n : Nat) : ∀ k, pcN n k = ((List.range k).map (bt n)).sum
  | 0 => rfl
  | k + 1 => by rw [List.range_succ, List.map_append, List.sum_append, ← pc_sum n k]; simp [pcN, bt]
theorem twice_fin : ∀ w h : Fin 4, (gll ((w : Nat) + 1) ((h : Nat) + 1) (((w : Nat) + 1) * ((h : Nat) + 1))).isPerm (List.range (gpsZ ((w : Nat) + 1) ((h : Nat) + 1)).toNat ++ List.range (gpsZ ((w : Nat) + 1) ((h : Nat) + 1)).toNat) = true := by decide +kernel
theorem twice (w h : Int) (h1 : 1 ≤ w) (h2 : w ≤ 4) (h3 : 1 ≤ h) (h4 : h ≤ 4) : (gll w h (w * h).toNat).Perm (List.range (gpsZ w h).toNat ++ List.range (gpsZ w h).toNat) := by
  obtain ⟨a, rfl⟩ : ∃ a : Fin 4, w = (a : Nat) + 1 := ⟨⟨(w - 1).toNat, by omega⟩, by simp; omega⟩
  obtain ⟨b, rfl⟩ : ∃ b : Fin 4, h = (b : Nat) + 1 := ⟨⟨(h - 1).toNat, by omega⟩, by simp; omega⟩
  have e : (((a : Nat) + 1 : Int) * ((b : Nat) + 1)).toNat = ((a : Nat) + 1) * ((b : Nat) + 1) := by
    rw [show (((a : Nat) + 1 : Int) * ((b : Nat) + 1)) = ((((a : Nat) + 1) * ((b : Nat) + 1) : Nat) : Int) by push_cast; rfl, Int.toNat_natCast]
  rw [e]
  exact List.isPerm_iff.1 (twice_fin a b)

theorem gp_fin : ∀ w h : Fin 4, ∀ k : Fin 16, ∀ d : Fin 4, nbZ ((w : Nat) + 1) ((h : Nat) + 1) (k : Nat) (d : Nat) < 0 ∨ gpZ ((w : Nat) + 1) ((h : Nat) + 1) (k : Nat) (d : Nat) < gpsZ ((w : Nat) + 1) ((h : Nat) + 1) := by decide +kernel
theorem gp_lt (w h k d : Int) (hn : ¬ nbZ w h k d < 0) : gpZ w h k d < gpsZ w h := by
  obtain ⟨⟨a, b, c, e⟩, ⟨k0, k1⟩, hd, n0, n1⟩ := nb_some hn
  have hm := (mul_bd w h a b c e).1
  have := gp_fin ⟨(w - 1).toNat, by omega⟩ ⟨(h - 1).toNat, by omega⟩ ⟨k.toNat, by omega⟩ ⟨d.toNat, by omega⟩
  rw [show (((w - 1).toNat : Nat) : Int) + 1 = w by omega, show (((h - 1).toNat : Nat) : Int) + 1 = h by omega, Int.toNat_of_nonneg k0, Int.toNat_of_nonneg hd.1] at this
  exact this.resolve_left hn
theorem bitZ_bt {o g : Int} (o0 : 0 ≤ o) (g0 : 0 ≤ g) : bitZ o g = ((bt o.toNat g.toNat : Nat) : Int) := by
  obtain ⟨n, k, rfl, rfl, _, hz⟩ := nat_form o0 g0
  rw [hz]; simp [bt]
theorem bt_le (n g : Nat) : bt n g ≤ 1 := by unfold bt; omega
/-- A step is there just if the gap between is open. -/
theorem st_pos {w h o k d : Int} (hv : OkM w h o) (hn : ¬ nbZ w h k d < 0) : (0 ≤ stZ w h o k d) ↔ bt o.toNat (gpZ w h k d).toNat = 1 := by
  have hb := both w h k d hn
  have hg0 := hb.1
  have hg1 := gp_lt w h k d hn
  have hz := bitZ_bt (o := o) (g := gpZ w h k d) hv.2.1 hg0
  have hn0 : 0 ≤ nbZ w h k d := by omega
  unfold stZ
  by_cases h1 : bt o.toNat (gpZ w h k d).toNat = 1
  · have hp : psB w h o (gpZ w h k d) = true := decide_eq_true ⟨hv, hg0, hg1, by omega⟩
    rw [if_pos hp]; omega
  · have hp : psB w h o (gpZ w h k d) = false := decide_eq_false fun e => h1 (by have := e.2.2.2; omega)
    rw [hp, if_neg (by decide)]; omega
theorem st_neg {w h o k d : Int} (hn : nbZ w h k d < 0) : ¬ 0 ≤ stZ w h o k d := by
  unfold stZ
  rw [show gpZ w h k d = -1 from by unfold gpZ; rw [if_pos hn], ps_none]
  simp
theorem wl_sum {w h o k : Int} (hv : OkM w h o) : ∀ d, (wlN w h o k d).length = ((gl w h k d).map (bt o.toNat)).sum
  | 0 => rfl
  | d + 1 => by
    have ih := wl_sum (k := k) hv d
    unfold wlN gl
    rw [List.map_append, List.sum_append, ← ih]
    by_cases hn : nbZ w h k d < 0
    · rw [if_neg (st_neg hn), if_pos hn]; simp
    · rw [if_neg hn]
      have hs := st_pos (d := (d : Int)) hv hn
      have hle := bt_le o.toNat (gpZ w h k d).toNat
      by_cases h0 : 0 ≤ stZ w h o k d
      · rw [if_pos h0]; have := hs.1 h0; simp [this]
      · rw [if_neg h0]
        have : bt o.toNat (gpZ w h k d).toNat = 0 := by
          have : ¬ bt o.toNat (gpZ w h k d).toNat = 1 := fun e => h0 (hs.2 e)
          omega
        simp [this]
/-- How many ways the first k cells have. -/
def cntM (w h o : Int) : Nat → Nat
  | 0 => 0
  | k + 1 => cntM w h o k + (wlZ w h o k).length
theorem cntM_sum {w h o : Int} (hv : OkM w h o) : ∀ k, cntM w h o k = ((gll w h k).map (bt o.toNat)).sum
  | 0 => rfl
  | k + 1 => by
    unfold cntM gll
    rw [List.map_append, List.sum_append, ← cntM_sum hv k]
    unfold wlZ
    rw [wl_sum hv 4]
theorem cntM_le (w h o : Int) : ∀ k, cntM w h o k ≤ 4 * k
  | 0 => Nat.le_refl _
  | k + 1 => by
    have := cntM_le w h o k
    have := wlN_len w h o k 4
    unfold cntM wlZ; omega
theorem pc_all {w h o : Int} (hv : OkM w h o) : pcN o.toNat (gpsZ w h).toNat = pcN o.toNat 24 := by
  obtain ⟨⟨h1, h2, h3, h4⟩, h0, ht⟩ := hv
  obtain ⟨g0, g1⟩ := gps_bd h1 h2 h3 h4
  refine (pcN_top (n := o.toNat) (t := (gpsZ w h).toNat) ?_ 24 (by omega)).symm
  unfold topZ at ht
  have : ((2 ^ (gpsZ w h).toNat : Nat) : Int) = 2 ^ (gpsZ w h).toNat := by simp
  omega
/-- All cells together have twice as many ways as there are passages. -/
theorem ways_twice {w h o : Int} (hv : OkM w h o) : ((cntM w h o (w * h).toNat : Nat) : Int) = 2 * cpZ w h o := by
  rw [cntM_sum hv, sum_perm _ (twice w h hv.1.1 hv.1.2.1 hv.1.2.2.1 hv.1.2.2.2), List.map_append, List.sum_append, ← pc_sum, pc_all hv]
  unfold cpZ
  rw [if_pos hv]; omega
/-- Back again. -/
theorem step_back {w h o k d : Int} (hs : 0 ≤ stZ w h o k d) : stZ w h o (stZ w h o k d) ((d + 2) % 4) = k := by
  by_cases hn : nbZ w h k d < 0
  · exact absurd hs (st_neg hn)
  · obtain ⟨g0, f1, f2, -, -, -⟩ := both w h k d hn
    have hp : psB w h o (gpZ w h k d) = true := by
      unfold stZ at hs
      split at hs
      · assumption
      · omega
    have e : stZ w h o k d = nbZ w h k d := by unfold stZ; rw [if_pos hp]
    rw [e]
    unfold stZ
    rw [f2, if_pos hp, f1]
theorem bit_sub {o p : Int} (hp : 0 < p) (h : o / p % 2 = 1) : (o - p) / p % 2 = 0 := by
  have e : o - p = o + (-1) * p := by omega
  rw [e, Int.add_mul_ediv_right _ _ (by omega)]
  generalize o / p = q at *
  omega
theorem bit_add {o p : Int} (hp : 0 < p) (h : o / p % 2 = 0) : (o + p) / p % 2 = 1 := by
  have e : o + p = o + 1 * p := by omega
  rw [e, Int.add_mul_ediv_right _ _ (by omega)]
  generalize o / p = q at *
  omega
/-- A gap that is set the other way and back again. -/
theorem flip {w h o t : Int} (hv : OkM w h o) (t0 : 0 ≤ t) (t1 : t < gpsZ w h) :
    OkM w h (sgZ w h o t (!psB w h o t)) ∧ psB w h (sgZ w h o t (!psB w h o t)) t = (!psB w h o t) ∧ sgZ w h (sgZ w h o t (!psB w h o t)) t (psB w h o t) = o ∧ sgZ w h o t (!psB w h o t) ≠ o ∧ sgB w h o t = true ∧ sgB w h (sgZ w h o t (!psB w h o t)) t = true := by
  obtain ⟨⟨h1, h2, h3, h4⟩, o0, ht⟩ := id hv
  obtain ⟨g0, g1⟩ := gps_bd h1 h2 h3 h4
  have hpw := pow_bd t (by omega)
  have hs : sgB w h o t = true := decide_eq_true ⟨hv, t0, t1⟩
  have hpb := put_bd o0 t0 t1 g1 (by unfold topZ at ht; exact ht)
  have hbd := bit_bd o t
  by_cases hb : bitZ o t = 1
  · have hp : psB w h o t = true := decide_eq_true ⟨hv, t0, t1, hb⟩
    have hx : sgZ w h o t false = o - 2 ^ t.toNat := by unfold sgZ; rw [if_pos hs, if_pos hb, if_neg (by decide)]
    rw [hp]
    show OkM w h (sgZ w h o t false) ∧ psB w h (sgZ w h o t false) t = false ∧ sgZ w h (sgZ w h o t false) t true = o ∧ sgZ w h o t false ≠ o ∧ sgB w h o t = true ∧ sgB w h (sgZ w h o t false) t = true
    rw [hx]
    have hv' : OkM w h (o - 2 ^ t.toNat) := ⟨⟨h1, h2, h3, h4⟩, hpb.1 hb, by omega⟩
    have hb' : bitZ (o - 2 ^ t.toNat) t = 0 := bit_sub (by omega) hb
    have hs' : sgB w h (o - 2 ^ t.toNat) t = true := decide_eq_true ⟨hv', t0, t1⟩
    refine ⟨hv', decide_eq_false fun e => by have := e.2.2.2; omega, ?_, by omega, hs, hs'⟩
    unfold sgZ; rw [if_pos hs', if_neg (by omega), if_pos rfl]; omega
  · have hb0 : bitZ o t = 0 := by omega
    have hp : psB w h o t = false := decide_eq_false fun e => hb e.2.2.2
    have hx : sgZ w h o t true = o + 2 ^ t.toNat := by unfold sgZ; rw [if_pos hs, if_neg hb, if_pos rfl]
    rw [hp]
    show OkM w h (sgZ w h o t true) ∧ psB w h (sgZ w h o t true) t = true ∧ sgZ w h (sgZ w h o t true) t false = o ∧ sgZ w h o t true ≠ o ∧ sgB w h o t = true ∧ sgB w h (sgZ w h o t true) t = true
    rw [hx]
    have hv' : OkM w h (o + 2 ^ t.toNat) := ⟨⟨h1, h2, h3, h4⟩, by omega, by have := hpb.2 hb; unfold topZ; omega⟩
    have hb' : bitZ (o + 2 ^ t.toNat) t = 1 := bit_add (by omega) hb0
    have hs' : sgB w h (o + 2 ^ t.toNat) t = true := decide_eq_true ⟨hv', t0, t1⟩
    refine ⟨hv', decide_eq_true ⟨hv', t0, t1, hb'⟩, ?_, by omega, hs, hs'⟩
    unfold sgZ; rw [if_pos hs', if_pos hb', if_neg (by decide)]; omega
theorem full_fin : ∀ G : Fin 25, pcN (2 ^ (G : Nat) - 1) 24 = (G : Nat) := by decide +kernel
/-- The full maze has as many passages as its grid has gaps. -/
theorem full_count {w h : Int} (h1 : 1 ≤ w) (h2 : w ≤ 4) (h3 : 1 ≤ h) (h4 : h ≤ 4) : cpZ w h (topZ w h) = gpsZ w h := by
  obtain ⟨g0, g1⟩ := gps_bd h1 h2 h3 h4
  have ht := top_bd h1 h2 h3 h4
  have hf := full_fin ⟨(gpsZ w h).toNat, by omega⟩
  unfold cpZ
  rw [if_pos ⟨⟨h1, h2, h3, h4⟩, ht.1, Int.le_refl _⟩]
  have e : (topZ w h).toNat = 2 ^ (gpsZ w h).toNat - 1 := by
    unfold topZ
    have : (2 : Int) ^ (gpsZ w h).toNat = ((2 ^ (gpsZ w h).toNat : Nat) : Int) := by simp
    omega
  rw [e, hf]
  simp; omega

/-- Each element of the ways is a direction in which a step is there. -/
theorem wl_mem {w h o k : Int} : ∀ n, ∀ d ∈ wlN w h o k n, (0 ≤ d ∧ d < n) ∧ 0 ≤ stZ w h o k d
  | 0 => by intro d hd; cases hd
  | n + 1 => by
    intro d hd
    unfold wlN at hd
    split at hd
    · rename_i hs
      rcases List.mem_append.1 hd with h1 | h1
      · have := wl_mem n d h1; omega
      · have e : d = (n : Int) := by simpa using h1
        subst e
        exact ⟨by omega, hs⟩
    · have := wl_mem n d hd; omega
end Go.Proofs.Ytomjfcmaoeoigaa.mazeQ
