/- Dividing, without the program: walls in rooms; a perfect maze comes out. -/
import Derived.Test.YthakbjdkcdppjaaGrwQ
namespace Go.Proofs.Ythakbjdkcdppjaa.grwR
open gridP gridQ bitP mazeP mazeQ mazeM reachP reachM reachN reachD forest perfP wayP popP popQ grwP grwQ
set_option linter.unusedVariables false

/-! ### gaps and cells -/
theorem kinds_fin : ∀ w h : Fin 4, ∀ g : Fin 24, (gpsZ ((w : Nat) + 1) ((h : Nat) + 1) ≤ (g : Nat)) ∨
    (ebZ ((w : Nat) + 1) ((h : Nat) + 1) (g : Nat) = eaZ ((w : Nat) + 1) ((h : Nat) + 1) (g : Nat) + 1 ∧ eaZ ((w : Nat) + 1) ((h : Nat) + 1) (g : Nat) % ((w : Nat) + 1) + 1 < ((w : Nat) + 1) ∧ gpZ ((w : Nat) + 1) ((h : Nat) + 1) (eaZ ((w : Nat) + 1) ((h : Nat) + 1) (g : Nat)) 1 = (g : Nat)) ∨
    (ebZ ((w : Nat) + 1) ((h : Nat) + 1) (g : Nat) = eaZ ((w : Nat) + 1) ((h : Nat) + 1) (g : Nat) + ((w : Nat) + 1) ∧ gpZ ((w : Nat) + 1) ((h : Nat) + 1) (eaZ ((w : Nat) + 1) ((h : Nat) + 1) (g : Nat)) 2 = (g : Nat)) := by decide +kernel
theorem cells_fin : ∀ w h : Fin 4, ∀ c : Fin 16, (((c : Nat) : Int) + ((w : Nat) + 1) < ((w : Nat) + 1) * ((h : Nat) + 1) → 0 ≤ gpZ ((w : Nat) + 1) ((h : Nat) + 1) (c : Nat) 2 ∧ gpZ ((w : Nat) + 1) ((h : Nat) + 1) (c : Nat) 2 < gpsZ ((w : Nat) + 1) ((h : Nat) + 1) ∧ eaZ ((w : Nat) + 1) ((h : Nat) + 1) (gpZ ((w : Nat) + 1) ((h : Nat) + 1) (c : Nat) 2) = (c : Nat) ∧ ebZ ((w : Nat) + 1) ((h : Nat) + 1) (gpZ ((w : Nat) + 1) ((h : Nat) + 1) (c : Nat) 2) = (c : Nat) + ((w : Nat) + 1)) ∧
    (((c : Nat) : Int) < ((w : Nat) + 1) * ((h : Nat) + 1) → ((c : Nat) : Int) % ((w : Nat) + 1) + 1 < ((w : Nat) + 1) → 0 ≤ gpZ ((w : Nat) + 1) ((h : Nat) + 1) (c : Nat) 1 ∧ gpZ ((w : Nat) + 1) ((h : Nat) + 1) (c : Nat) 1 < gpsZ ((w : Nat) + 1) ((h : Nat) + 1) ∧ eaZ ((w : Nat) + 1) ((h : Nat) + 1) (gpZ ((w : Nat) + 1) ((h : Nat) + 1) (c : Nat) 1) = (c : Nat) ∧ ebZ ((w : Nat) + 1) ((h : Nat) + 1) (gpZ ((w : Nat) + 1) ((h : Nat) + 1) (c : Nat) 1) = (c : Nat) + 1) := by decide +kernel
section
variable {x y : Int} {W H : Nat}
/-- The grid's numbers. -/
def Gd (x y : Int) (W H : Nat) : Prop := OkZ x y ∧ x = (W : Int) ∧ y = (H : Int)
theorem Gd.cn (h : Gd x y W H) : cN x y = W * H := by
  obtain ⟨h1, rfl, rfl⟩ := h
  unfold cN
  rw [← Int.natCast_mul, Int.toNat_natCast]
theorem Gd.bd (h : Gd x y W H) : 1 ≤ W ∧ W ≤ 4 ∧ 1 ≤ H ∧ H ≤ 4 := by
  obtain ⟨⟨h1, h2, h3, h4⟩, rfl, rfl⟩ := h
  omega
theorem Gd.kinds (h : Gd x y W H) {g : Nat} (hg : g < gN x y) : (bN x y g = aN x y g + 1 ∧ aN x y g % W + 1 < W ∧ gpZ x y (aN x y g) 1 = g) ∨ (bN x y g = aN x y g + W ∧ gpZ x y (aN x y g) 2 = g) := by
  obtain ⟨hk, rfl, rfl⟩ := h
  obtain ⟨l1, l2, l3, l4⟩ := ends_lt hk hg
  obtain ⟨h1, h2, h3, h4⟩ := hk
  have hb := gps_bd h1 h2 h3 h4
  have h24 : g < 24 := by unfold gN at hg; omega
  have := kinds_fin ⟨W - 1, by omega⟩ ⟨H - 1, by omega⟩ ⟨g, h24⟩
  simp only [show ((W - 1 : Nat) : Int) + 1 = (W : Int) by omega, show ((H - 1 : Nat) : Int) + 1 = (H : Int) by omega] at this
  rw [l3, l4] at this
  rcases this with h | ⟨a1, a2, a3⟩ | ⟨a1, a2⟩
  · unfold gN at hg; omega
  · left
    refine ⟨by omega, ?_, a3⟩
    have : (((aN (W : Int) (H : Int) g % W : Nat) : Int)) = ((aN (W : Int) (H : Int) g : Nat) : Int) % (W : Int) := Int.natCast_emod _ _
    omega
  · right; exact ⟨by omega, a2⟩
theorem Gd.south (h : Gd x y W H) {c : Nat} (hc : c + W < W * H) : ∃ g : Nat, gpZ x y c 2 = g ∧ g < gN x y ∧ aN x y g = c ∧ bN x y g = c + W := by
  obtain ⟨hk, rfl, rfl⟩ := h
  obtain ⟨h1, h2, h3, h4⟩ := hk
  have hm := (mul_bd (W : Int) (H : Int) h1 h2 h3 h4).1
  have e : (W : Int) * (H : Int) = ((W * H : Nat) : Int) := by push_cast; rfl
  have := (cells_fin ⟨W - 1, by omega⟩ ⟨H - 1, by omega⟩ ⟨c, by omega⟩).1
  simp only [show ((W - 1 : Nat) : Int) + 1 = (W : Int) by omega, show ((H - 1 : Nat) : Int) + 1 = (H : Int) by omega] at this
  obtain ⟨a1, a2, a3, a4⟩ := this (by omega)
  refine ⟨(gpZ W H c 2).toNat, by omega, by unfold gN; omega, ?_, ?_⟩
  · unfold aN; rw [show (((gpZ W H c 2).toNat : Nat) : Int) = gpZ W H c 2 by omega, a3]; simp
  · unfold bN; rw [show (((gpZ W H c 2).toNat : Nat) : Int) = gpZ W H c 2 by omega, a4]; omega
theorem Gd.east (h : Gd x y W H) {c : Nat} (hc : c < W * H) (hw : c % W + 1 < W) : ∃ g : Nat, gpZ x y c 1 = g ∧ g < gN x y ∧ aN x y g = c ∧ bN x y g = c + 1 := by
  obtain ⟨hk, rfl, rfl⟩ := h
  obtain ⟨h1, h2, h3, h4⟩ := hk
  have hm := (mul_bd (W : Int) (H : Int) h1 h2 h3 h4).1
  have e : (W : Int) * (H : Int) = ((W * H : Nat) : Int) := by push_cast; rfl
  have em : ((c % W : Nat) : Int) = (c : Int) % (W : Int) := Int.natCast_emod _ _
  have := (cells_fin ⟨W - 1, by omega⟩ ⟨H - 1, by omega⟩ ⟨c, by omega⟩).2
  simp only [show ((W - 1 : Nat) : Int) + 1 = (W : Int) by omega, show ((H - 1 : Nat) : Int) + 1 = (H : Int) by omega] at this
  obtain ⟨a1, a2, a3, a4⟩ := this (by omega) (by omega)
  refine ⟨(gpZ W H c 1).toNat, by omega, by unfold gN; omega, ?_, ?_⟩
  · unfold aN; rw [show (((gpZ W H c 1).toNat : Nat) : Int) = gpZ W H c 1 by omega, a3]; simp
  · unfold bN; rw [show (((gpZ W H c 1).toNat : Nat) : Int) = gpZ W H c 1 by omega, a4]; omega

/-! ### rooms -/
def rmB (W x0 y0 w h c : Nat) : Bool := decide (x0 ≤ c % W ∧ c % W < x0 + w ∧ y0 ≤ c / W ∧ c / W < y0 + h)
theorem rm_iff {x0 y0 w h c : Nat} : rmB W x0 y0 w h c = true ↔ x0 ≤ c % W ∧ c % W < x0 + w ∧ y0 ≤ c / W ∧ c / W < y0 + h := by unfold rmB; rw [decide_eq_true_iff]
/-- A cell by its column and row. -/
theorem cell_is {c k r : Nat} (hW : k < W) (e : c = r * W + k) : c % W = k ∧ c / W = r := by
  subst e
  rw [Nat.mul_comm r W, Nat.mul_add_mod, Nat.mod_eq_of_lt hW, Nat.mul_add_div (by omega), Nat.div_eq_of_lt hW]
  exact ⟨rfl, rfl⟩
theorem cell_of (c : Nat) : c = c / W * W + c % W := by rw [Nat.mul_comm]; exact (Nat.div_add_mod c W).symm
theorem down_is {c : Nat} (hW : 0 < W) : (c + W) % W = c % W ∧ (c + W) / W = c / W + 1 := ⟨Nat.add_mod_right _ _, Nat.add_div_right _ hW⟩
theorem right_is {c : Nat} (h : c % W + 1 < W) : (c + 1) % W = c % W + 1 ∧ (c + 1) / W = c / W := by
  have := cell_is (c := c + 1) (k := c % W + 1) (r := c / W) h (by have := cell_of (W := W) c; omega)
  exact this
theorem row_lt {c r k : Nat} (hr : r < H) (hk : k < W) (e : c = r * W + k) : c < W * H := by
  subst e
  have : (r + 1) * W ≤ H * W := Nat.mul_le_mul_right W hr
  rw [Nat.mul_comm W H]
  rw [Nat.add_mul] at this
  omega
theorem row_lt2 {c r k : Nat} (hr : r + 1 < H) (hk : k < W) (e : c = r * W + k) : c + W < W * H := by
  refine row_lt (r := r + 1) (k := k) hr hk ?_
  rw [Nat.add_mul]; omega

/-! ### walls -/
theorem wall_rows (hg : Gd x y W H) {m x0 rr p w : Nat} (hm : m < 2 ^ gN x y) (hx : x0 + w ≤ W) (hr : rr + 1 < H) : ∀ i, i ≤ w → ∃ m' : Nat, wlH x y m x0 rr p i = (m' : Int) ∧ m' < 2 ^ gN x y ∧ ∀ g, g < gN x y →
    (∀ t, t < i → aN x y g = rr * W + x0 + t → bN x y g = aN x y g + W → bt m' g = if t = p then 1 else 0) ∧ ((∀ t, t < i → ¬ (aN x y g = rr * W + x0 + t ∧ bN x y g = aN x y g + W)) → bt m' g = bt m g)
  | 0, _ => ⟨m, rfl, hm, fun g _ => ⟨fun t ht => absurd ht (by omega), fun _ => rfl⟩⟩
  | i + 1, hi => by
    obtain ⟨m1, e1, h1, b1⟩ := wall_rows hg hm hx hr i (by omega)
    obtain ⟨g', eg, hg', ha, hb⟩ := hg.south (c := rr * W + x0 + i) (row_lt2 (r := rr) (k := x0 + i) hr (by omega) (by omega))
    obtain ⟨m2, e2, h2, b2⟩ := sg_bits hg.1 h1 hg' (decide (i = p))
    have huniq : ∀ g, g < gN x y → aN x y g = rr * W + x0 + i → bN x y g = aN x y g + W → g = g' := fun g hgl h3 h4 => by
      rcases hg.kinds hgl with ⟨k1, k2, k3⟩ | ⟨k1, k2⟩
      · omega
      · rw [h3, eg] at k2; omega
    refine ⟨m2, ?_, h2, fun g hgl => ⟨fun t ht h3 h4 => ?_, fun hn => ?_⟩⟩
    · rw [wlH, e1, ← e2]
      congr 1
      have hx' : x = (W : Int) := hg.2.1
      rw [hx', ← eg, hx']
      congr 1
    · rw [b2 g]
      by_cases e : t = i
      · subst e
        rw [if_pos (huniq g hgl h3 h4)]
        by_cases hp : t = p
        · rw [decide_eq_true hp, if_pos rfl, if_pos hp]
        · rw [decide_eq_false hp, if_neg (by decide), if_neg hp]
      · rw [if_neg (fun h => by rw [h, ha] at h3; omega)]
        exact (b1 g hgl).1 t (by omega) h3 h4
    · rw [b2 g, if_neg (fun h => hn i (by omega) (by rw [h]; exact ⟨ha, by omega⟩))]
      exact (b1 g hgl).2 fun t ht => hn t (by omega)
theorem wall_cols (hg : Gd x y W H) {m cc y0 p h : Nat} (hm : m < 2 ^ gN x y) (hy : y0 + h ≤ H) (hc : cc + 1 < W) : ∀ i, i ≤ h → ∃ m' : Nat, wlV x y m cc y0 p i = (m' : Int) ∧ m' < 2 ^ gN x y ∧ ∀ g, g < gN x y →
    (∀ t, t < i → aN x y g = (y0 + t) * W + cc → bN x y g = aN x y g + 1 → bt m' g = if t = p then 1 else 0) ∧ ((∀ t, t < i → ¬ (aN x y g = (y0 + t) * W + cc ∧ bN x y g = aN x y g + 1)) → bt m' g = bt m g)
  | 0, _ => ⟨m, rfl, hm, fun g _ => ⟨fun t ht => absurd ht (by omega), fun _ => rfl⟩⟩
  | i + 1, hi => by
    obtain ⟨m1, e1, h1, b1⟩ := wall_cols hg hm hy hc i (by omega)
    have hcell := cell_is (W := W) (c := (y0 + i) * W + cc) (k := cc) (r := y0 + i) (by omega) rfl
    obtain ⟨g', eg, hg', ha, hb⟩ := hg.east (c := (y0 + i) * W + cc) (row_lt (r := y0 + i) (k := cc) (by omega) (by omega) rfl) (by omega)
    obtain ⟨m2, e2, h2, b2⟩ := sg_bits hg.1 h1 hg' (decide (i = p))
    have huniq : ∀ g, g < gN x y → aN x y g = (y0 + i) * W + cc → bN x y g = aN x y g + 1 → g = g' := fun g hgl h3 h4 => by
      rcases hg.kinds hgl with ⟨k1, k2, k3⟩ | ⟨k1, k2⟩
      · rw [h3, eg] at k3; omega
      · omega
    have hinj : ∀ t, (y0 + t) * W + cc = (y0 + i) * W + cc → t = i := fun t h => by
      have hd := (cell_is (W := W) (c := (y0 + t) * W + cc) (k := cc) (r := y0 + t) (by omega) rfl).2
      rw [h, hcell.2] at hd; omega
    refine ⟨m2, ?_, h2, fun g hgl => ⟨fun t ht h3 h4 => ?_, fun hn => ?_⟩⟩
    · rw [wlV, e1, ← e2]
      congr 1
      have hx' : x = (W : Int) := hg.2.1
      rw [hx', ← eg, hx']
      congr 1
    · rw [b2 g]
      by_cases e : t = i
      · subst e
        rw [if_pos (huniq g hgl h3 h4)]
        by_cases hp : t = p
        · rw [decide_eq_true hp, if_pos rfl, if_pos hp]
        · rw [decide_eq_false hp, if_neg (by decide), if_neg hp]
      · rw [if_neg (fun h => e (by rw [h, ha] at h3; exact hinj t h3.symm))]
        exact (b1 g hgl).1 t (by omega) h3 h4
    · rw [b2 g, if_neg (fun h => hn i (by omega) (by rw [h]; exact ⟨ha, by omega⟩))]
      exact (b1 g hgl).2 fun t ht => hn t (by omega)
/-- A wall below a row parts a room. -/
theorem parts_rows (hg : Gd x y W H) {m x0 y0 w h r p : Nat} (hm : m < 2 ^ gN x y) (hx : x0 + w ≤ W) (hy : y0 + h ≤ H) (hr : r + 1 < h) (hp : p < w) :
    ∃ m1 g0 : Nat, wlH x y m x0 (y0 + r) p w = (m1 : Int) ∧ m1 < 2 ^ gN x y ∧ Wa x y (rmB W x0 y0 w (r + 1)) (rmB W x0 (y0 + r + 1) w (h - r - 1)) g0 m m1 := by
  have hW := hg.bd
  obtain ⟨m1, e1, h1, b1⟩ := wall_rows hg (p := p) hm hx (show y0 + r + 1 < H by omega) w (Nat.le_refl _)
  obtain ⟨g0, eg, hg0, ha, hb⟩ := hg.south (c := (y0 + r) * W + x0 + p) (row_lt2 (r := y0 + r) (k := x0 + p) (by omega) (by omega) (by omega))
  -- the gaps that lead over the wall
  have hin : ∀ g t, t < w → aN x y g = (y0 + r) * W + x0 + t → bN x y g = aN x y g + W → rmB W x0 y0 w (r + 1) (aN x y g) = true ∧ rmB W x0 (y0 + r + 1) w (h - r - 1) (bN x y g) = true := fun g t ht h3 h4 => by
    have c1 := cell_is (W := W) (c := aN x y g) (k := x0 + t) (r := y0 + r) (by omega) (by omega)
    have c2 := down_is (W := W) (c := aN x y g) (by omega)
    rw [rm_iff, rm_iff, h4]
    omega
  have hout : ∀ g, g < gN x y → Xg x y (rmB W x0 y0 w (r + 1)) (rmB W x0 (y0 + r + 1) w (h - r - 1)) g → ∃ t, t < w ∧ aN x y g = (y0 + r) * W + x0 + t ∧ bN x y g = aN x y g + W := fun g hgl hxg => by
    have hcell := cell_of (W := W) (aN x y g)
    unfold Xg at hxg
    rw [rm_iff, rm_iff, rm_iff, rm_iff] at hxg
    rcases hg.kinds hgl with ⟨k1, k2, -⟩ | ⟨k1, -⟩
    · have c2 := right_is k2
      rw [k1] at hxg
      omega
    · have c2 := down_is (W := W) (c := aN x y g) (by omega)
      rw [k1] at hxg
      have hrow : aN x y g / W = y0 + r := by omega
      rw [hrow] at hcell
      exact ⟨aN x y g % W - x0, by omega, by omega, k1⟩
  refine ⟨m1, g0, e1, h1, ⟨hg0, .inl (hin g0 p hp ha (by omega))⟩, fun g hgl hxg => ?_, fun g hgl hxg => ?_⟩
  · obtain ⟨t, ht, h3, h4⟩ := hout g hgl hxg
    rw [(b1 g hgl).1 t ht h3 h4]
    constructor
    · intro h
      have htp : t = p := by
        apply Classical.byContradiction
        intro hn; rw [if_neg hn] at h; omega
      rcases hg.kinds hgl with ⟨k1, k2, -⟩ | ⟨k1, k2⟩
      · omega
      · rw [h3, htp, eg] at k2; omega
    · intro h
      subst h
      rw [if_pos (by omega)]
  · exact (b1 g hgl).2 fun t ht h => hxg (.inl (hin g t ht h.1 h.2))
theorem parts_cols (hg : Gd x y W H) {m x0 y0 w h c p : Nat} (hm : m < 2 ^ gN x y) (hx : x0 + w ≤ W) (hy : y0 + h ≤ H) (hc : c + 1 < w) (hp : p < h) :
    ∃ m1 g0 : Nat, wlV x y m (x0 + c) y0 p h = (m1 : Int) ∧ m1 < 2 ^ gN x y ∧ Wa x y (rmB W x0 y0 (c + 1) h) (rmB W (x0 + c + 1) y0 (w - c - 1) h) g0 m m1 := by
  have hW := hg.bd
  obtain ⟨m1, e1, h1, b1⟩ := wall_cols hg (p := p) hm hy (show x0 + c + 1 < W by omega) h (Nat.le_refl _)
  have hcp := cell_is (W := W) (c := (y0 + p) * W + (x0 + c)) (k := x0 + c) (r := y0 + p) (by omega) rfl
  obtain ⟨g0, eg, hg0, ha, hb⟩ := hg.east (c := (y0 + p) * W + (x0 + c)) (row_lt (r := y0 + p) (k := x0 + c) (by omega) (by omega) rfl) (by omega)
  have hin : ∀ g t, t < h → aN x y g = (y0 + t) * W + (x0 + c) → bN x y g = aN x y g + 1 → rmB W x0 y0 (c + 1) h (aN x y g) = true ∧ rmB W (x0 + c + 1) y0 (w - c - 1) h (bN x y g) = true := fun g t ht h3 h4 => by
    have c1 := cell_is (W := W) (c := aN x y g) (k := x0 + c) (r := y0 + t) (by omega) h3
    have c2 := right_is (W := W) (c := aN x y g) (by omega)
    rw [rm_iff, rm_iff, h4]
    omega
  have hout : ∀ g, g < gN x y → Xg x y (rmB W x0 y0 (c + 1) h) (rmB W (x0 + c + 1) y0 (w - c - 1) h) g → ∃ t, t < h ∧ aN x y g = (y0 + t) * W + (x0 + c) ∧ bN x y g = aN x y g + 1 := fun g hgl hxg => by
    have hcell := cell_of (W := W) (aN x y g)
    unfold Xg at hxg
    rw [rm_iff, rm_iff, rm_iff, rm_iff] at hxg
    rcases hg.kinds hgl with ⟨k1, k2, -⟩ | ⟨k1, -⟩
    · have c2 := right_is k2
      rw [k1] at hxg
      have hcol : aN x y g % W = x0 + c := by omega
      rw [hcol] at hcell
      refine ⟨aN x y g / W - y0, by omega, ?_, k1⟩
      rw [show y0 + (aN x y g / W - y0) = aN x y g / W by omega]; exact hcell
    · have c2 := down_is (W := W) (c := aN x y g) (by omega)
      rw [k1] at hxg
      omega
  refine ⟨m1, g0, e1, h1, ⟨hg0, .inl (hin g0 p hp ha (by omega))⟩, fun g hgl hxg => ?_, fun g hgl hxg => ?_⟩
  · obtain ⟨t, ht, h3, h4⟩ := hout g hgl hxg
    rw [(b1 g hgl).1 t ht h3 h4]
    constructor
    · intro h
      have htp : t = p := by
        apply Classical.byContradiction
        intro hn; rw [if_neg hn] at h; omega
      rcases hg.kinds hgl with ⟨k1, k2, k3⟩ | ⟨k1, k2⟩
      · rw [h3, htp, eg] at k3; omega
      · omega
    · intro h
      subst h
      have c1 := cell_is (W := W) (c := aN x y g) (k := x0 + c) (r := y0 + t) (by omega) h3
      rw [ha, hcp.2] at c1
      rw [if_pos (by omega)]
  · exact (b1 g hgl).2 fun t ht h => hxg (.inl (hin g t ht h.1 h.2))

/-! ### rooms of one row or column -/
theorem cnt_inj {k : Nat} (f : Nat → Nat) : ∀ {n : Nat} {p : Nat → Bool}, (∀ o, o < n → p o = true → f o < k) → (∀ o o', o < n → o' < n → p o = true → p o' = true → f o = f o' → o = o') → cnt p n ≤ k := by
  induction k with
  | zero =>
    intro n p h1 _
    rw [cnt_none fun o ho => by cases hp : p o with
      | false => rfl
      | true => exact absurd (h1 o ho hp) (by omega)]
    exact Nat.zero_le _
  | succ k ih =>
    intro n p h1 h2
    by_cases h : ∃ o, o < n ∧ p o = true ∧ f o = k
    · obtain ⟨o, ho, hp, hf⟩ := h
      have e := cnt_del (p := p) (q := fun j => p j && !decide (j = o)) (c := o) hp (by simp) ho (fun j _ hj => by simp [hj])
      have := ih (n := n) (p := fun j => p j && !decide (j = o)) (fun j hj hpj => by
        simp only [Bool.and_eq_true, Bool.not_eq_true', decide_eq_false_iff_not] at hpj
        have h3 := h1 j hj hpj.1
        have h4 : f j ≠ k := fun e => hpj.2 (h2 j o hj ho hpj.1 hp (by rw [e, hf]))
        omega) (fun j j' hj hj' hpj hpj' => h2 j j' hj hj' (by simp only [Bool.and_eq_true] at hpj; exact hpj.1) (by simp only [Bool.and_eq_true] at hpj'; exact hpj'.1))
      omega
    · have := ih (n := n) (p := p) (fun j hj hpj => by
        have h3 := h1 j hj hpj
        have h4 : f j ≠ k := fun e => h ⟨j, hj, hpj, e⟩
        omega) h2
      omega
theorem base_row (hg : Gd x y W H) {m x0 y0 w : Nat} (hm : m < 2 ^ gN x y) (hw : 1 ≤ w) (hx : x0 + w ≤ W) (hy : y0 < H) (hf : Fu x y m (rmB W x0 y0 w 1)) : Dv x y (rmB W x0 y0 w 1) w m m := by
  have hW := hg.bd
  have hin : ∀ t, t < w → rmB W x0 y0 w 1 (y0 * W + x0 + t) = true := fun t ht => by
    have c1 := cell_is (W := W) (c := y0 * W + x0 + t) (k := x0 + t) (r := y0) (by omega) (by omega)
    rw [rm_iff]; omega
  have hout : ∀ c, rmB W x0 y0 w 1 c = true → ∃ t, t < w ∧ c = y0 * W + x0 + t := fun c hc => by
    rw [rm_iff] at hc
    have hcell := cell_of (W := W) c
    have : c / W = y0 := by omega
    rw [this] at hcell
    exact ⟨c % W - x0, by omega, by omega⟩
  have hch : ∀ t, t < w → RC x y m (rmB W x0 y0 w 1) (y0 * W + x0) (y0 * W + x0 + t) := by
    intro t
    induction t with
    | zero => intro _; exact rc_refl _
    | succ t ih =>
      intro ht
      have c1 := cell_is (W := W) (c := y0 * W + x0 + t) (k := x0 + t) (r := y0) (by omega) (by omega)
      obtain ⟨g, eg, hgl, ha, hb⟩ := hg.east (c := y0 * W + x0 + t) (row_lt (r := y0) (k := x0 + t) hy (by omega) (by omega)) (by omega)
      have h1 := hin t (by omega)
      have h2 := hin (t + 1) ht
      rw [← Nat.add_assoc] at h2
      have := rc_gap (m := m) (R := rmB W x0 y0 w 1) hgl (hf g hgl (by rw [ha]; exact h1) (by rw [hb]; exact h2)) (by rw [ha]; exact h1) (by rw [hb]; exact h2)
      rw [ha, hb] at this
      exact rc_trans (ih (by omega)) this
  refine ⟨hm, ⟨fun u v hu hv => ?_, ?_⟩, fun _ _ _ => rfl⟩
  · obtain ⟨t, ht, rfl⟩ := hout u hu
    obtain ⟨s, hs, rfl⟩ := hout v hv
    exact rc_trans (rc_symm (hch t ht)) (hch s hs)
  · have key : ∀ g, g < gN x y → rpB x y m (rmB W x0 y0 w 1) g = true → bN x y g = aN x y g + 1 ∧ gpZ x y (aN x y g) 1 = g ∧ ∃ t, t + 1 < w ∧ aN x y g = y0 * W + x0 + t := fun g hgl h => by
      unfold rpB at h
      simp only [Bool.and_eq_true, decide_eq_true_iff] at h
      obtain ⟨-, h2, h3⟩ := h
      obtain ⟨t, ht, et⟩ := hout _ h2
      obtain ⟨s, hs, es⟩ := hout _ h3
      rcases hg.kinds hgl with ⟨k1, k2, k3⟩ | ⟨k1, k2⟩
      · exact ⟨k1, k3, t, by omega, et⟩
      · have c2 := down_is (W := W) (c := aN x y g) (by omega)
        rw [k1, rm_iff] at h3
        rw [rm_iff] at h2
        omega
    have := cnt_inj (k := w - 1) (fun g => aN x y g - (y0 * W + x0)) (n := gN x y) (p := rpB x y m (rmB W x0 y0 w 1)) (fun g hgl h => by
      obtain ⟨-, -, t, ht, et⟩ := key g hgl h
      show aN x y g - _ < _
      omega) (fun g g' hgl hgl' h h' e => by
      obtain ⟨-, k1, t, ht, et⟩ := key g hgl h
      obtain ⟨-, k2, s, hs, es⟩ := key g' hgl' h'
      have e : aN x y g - (y0 * W + x0) = aN x y g' - (y0 * W + x0) := e
      have : aN x y g = aN x y g' := by omega
      rw [this, k2] at k1
      omega)
    omega
theorem base_col (hg : Gd x y W H) {m x0 y0 h : Nat} (hm : m < 2 ^ gN x y) (hh : 1 ≤ h) (hx : x0 < W) (hy : y0 + h ≤ H) (hf : Fu x y m (rmB W x0 y0 1 h)) : Dv x y (rmB W x0 y0 1 h) h m m := by
  have hW := hg.bd
  have hin : ∀ t, t < h → rmB W x0 y0 1 h ((y0 + t) * W + x0) = true := fun t ht => by
    have c1 := cell_is (W := W) (c := (y0 + t) * W + x0) (k := x0) (r := y0 + t) (by omega) rfl
    rw [rm_iff]; omega
  have hout : ∀ c, rmB W x0 y0 1 h c = true → ∃ t, t < h ∧ c = (y0 + t) * W + x0 ∧ c / W = y0 + t := fun c hc => by
    rw [rm_iff] at hc
    have hcell := cell_of (W := W) c
    have : c % W = x0 := by omega
    rw [this] at hcell
    exact ⟨c / W - y0, by omega, by rw [show y0 + (c / W - y0) = c / W by omega]; exact hcell, by omega⟩
  have hch : ∀ t, t < h → RC x y m (rmB W x0 y0 1 h) (y0 * W + x0) ((y0 + t) * W + x0) := by
    intro t
    induction t with
    | zero => intro _; exact rc_refl _
    | succ t ih =>
      intro ht
      obtain ⟨g, eg, hgl, ha, hb⟩ := hg.south (c := (y0 + t) * W + x0) (row_lt2 (r := y0 + t) (k := x0) (by omega) (by omega) rfl)
      have h1 := hin t (by omega)
      have h2 := hin (t + 1) ht
      have e : (y0 + (t + 1)) * W + x0 = (y0 + t) * W + x0 + W := by rw [← Nat.add_assoc, Nat.add_mul (y0 + t) 1 W]; omega
      rw [e] at h2 ⊢
      have := rc_gap (m := m) (R := rmB W x0 y0 1 h) hgl (hf g hgl (by rw [ha]; exact h1) (by rw [hb]; exact h2)) (by rw [ha]; exact h1) (by rw [hb]; exact h2)
      rw [ha, hb] at this
      exact rc_trans (ih (by omega)) this
  refine ⟨hm, ⟨fun u v hu hv => ?_, ?_⟩, fun _ _ _ => rfl⟩
  · obtain ⟨t, ht, rfl, -⟩ := hout u hu
    obtain ⟨s, hs, rfl, -⟩ := hout v hv
    exact rc_trans (rc_symm (hch t ht)) (hch s hs)
  · have key : ∀ g, g < gN x y → rpB x y m (rmB W x0 y0 1 h) g = true → gpZ x y (aN x y g) 2 = g ∧ ∃ t, t + 1 < h ∧ aN x y g = (y0 + t) * W + x0 ∧ aN x y g / W = y0 + t := fun g hgl h => by
      unfold rpB at h
      simp only [Bool.and_eq_true, decide_eq_true_iff] at h
      obtain ⟨-, h2, h3⟩ := h
      obtain ⟨t, ht, et, et'⟩ := hout _ h2
      obtain ⟨s, hs, es, es'⟩ := hout _ h3
      rcases hg.kinds hgl with ⟨k1, k2, k3⟩ | ⟨k1, k2⟩
      · have c2 := right_is k2
        rw [k1, rm_iff] at h3
        rw [rm_iff] at h2
        omega
      · have c2 := down_is (W := W) (c := aN x y g) (by omega)
        rw [k1] at es'
        exact ⟨k2, t, by omega, et, et'⟩
    have := cnt_inj (k := h - 1) (fun g => aN x y g / W - y0) (n := gN x y) (p := rpB x y m (rmB W x0 y0 1 h)) (fun g hgl h => by
      obtain ⟨-, t, ht, et, et'⟩ := key g hgl h
      show aN x y g / W - _ < _
      omega) (fun g g' hgl hgl' h h' e => by
      obtain ⟨k1, t, ht, et, et'⟩ := key g hgl h
      obtain ⟨k2, s, hs, es, es'⟩ := key g' hgl' h'
      have e : aN x y g / W - y0 = aN x y g' / W - y0 := e
      have hts : t = s := by omega
      subst hts
      rw [et, ← es, k2] at k1
      omega)
    omega

/-! ### all rooms -/
theorem divided (hg : Gd x y W H) (cs : List Int) : ∀ (f m k x0 y0 w h : Nat), 1 ≤ w → 1 ≤ h → x0 + w ≤ W → y0 + h ≤ H → w + h ≤ f → m < 2 ^ gN x y → Fu x y m (rmB W x0 y0 w h) →
    ∃ m' : Nat, (dvF x y cs f ((m : Int), k) x0 y0 w h).1 = (m' : Int) ∧ Dv x y (rmB W x0 y0 w h) (w * h) m m'
  | 0, m, k, x0, y0, w, h, hw, hh, _, _, hf, _, _ => by omega
  | f + 1, m, k, x0, y0, w, h, hw, hh, hx, hy, hf, hm, hfu => by
    by_cases hb : w = 1 ∨ h = 1
    · refine ⟨m, by rw [dv_base hb], ?_⟩
      rcases hb with rfl | rfl
      · rw [Nat.one_mul]; exact base_col hg hm hh (by omega) hy hfu
      · rw [Nat.mul_one]; exact base_row hg hm hw hx (by omega) hfu
    · have hRA : ∀ c, rmB W x0 y0 w h c = true → True := fun _ _ => trivial
      by_cases hl : w ≤ h
      · have hr := Nat.mod_lt (chZ cs k).toNat (show 0 < h - 1 by omega)
        have hp := Nat.mod_lt (chZ cs (k + 1)).toNat (show 0 < w by omega)
        rw [dv_rows hb hl rfl rfl]
        generalize (chZ cs k).toNat % (h - 1) = r at *
        generalize (chZ cs (k + 1)).toNat % w = p at *
        obtain ⟨m1, g0, e1, h1, hwa⟩ := parts_rows hg hm hx hy (show r + 1 < h by omega) hp
        rw [e1]
        have hR : ∀ c, rmB W x0 y0 w h c = true ↔ rmB W x0 y0 w (r + 1) c = true ∨ rmB W x0 (y0 + r + 1) w (h - r - 1) c = true := fun c => by
          rw [rm_iff, rm_iff, rm_iff]; omega
        have hAB : ∀ c, rmB W x0 y0 w (r + 1) c = true → rmB W x0 (y0 + r + 1) w (h - r - 1) c = true → False := fun c h1 h2 => by
          rw [rm_iff] at h1 h2; omega
        have hnX : ∀ {A B : Nat → Bool}, (∀ c, A c = true → B c = true → False) → ∀ g, (A (aN x y g) = true ∧ A (bN x y g) = true ∨ B (aN x y g) = true ∧ B (bN x y g) = true) → ¬ Xg x y A B g := fun hd g hh hx => by
          rcases hh with hh | hh <;> rcases hx with hx | hx
          · exact hd _ hh.2 hx.2
          · exact hd _ hh.1 hx.1
          · exact hd _ hx.1 hh.1
          · exact hd _ hx.2 hh.2
        have hfA : Fu x y m1 (rmB W x0 y0 w (r + 1)) := fun g hgl ha hb => by
          rw [hwa.2.2 g hgl (hnX hAB g (.inl ⟨ha, hb⟩))]; exact hfu g hgl ((hR _).2 (.inl ha)) ((hR _).2 (.inl hb))
        obtain ⟨m2, e2, d2⟩ := divided hg cs f m1 (k + 2) x0 y0 w (r + 1) hw (by omega) hx (by omega) (by omega) h1 hfA
        generalize dvF x y cs f ((m1 : Int), k + 2) x0 y0 w (r + 1) = s2 at *
        obtain ⟨o2, k2⟩ := s2
        have e2 : o2 = (m2 : Int) := e2
        subst e2
        have hfB : Fu x y m2 (rmB W x0 (y0 + r + 1) w (h - r - 1)) := fun g hgl ha hb => by
          rw [d2.2.2 g hgl (fun hh => hAB _ hh.1 ha), hwa.2.2 g hgl (hnX hAB g (.inr ⟨ha, hb⟩))]; exact hfu g hgl ((hR _).2 (.inr ha)) ((hR _).2 (.inr hb))
        obtain ⟨m3, e3, d3⟩ := divided hg cs f m2 k2 x0 (y0 + r + 1) w (h - r - 1) hw (by omega) hx (by omega) (by omega) d2.1 hfB
        refine ⟨m3, e3, ?_⟩
        have e : w * h = w * (r + 1) + w * (h - r - 1) := by rw [← Nat.mul_add]; congr 1; omega
        rw [e]
        exact divide hR hAB hfu hwa (fun _ => d2) (fun _ => d3)
      · have hc := Nat.mod_lt (chZ cs k).toNat (show 0 < w - 1 by omega)
        have hp := Nat.mod_lt (chZ cs (k + 1)).toNat (show 0 < h by omega)
        rw [dv_cols hb hl rfl rfl]
        generalize (chZ cs k).toNat % (w - 1) = c at *
        generalize (chZ cs (k + 1)).toNat % h = p at *
        obtain ⟨m1, g0, e1, h1, hwa⟩ := parts_cols hg hm hx hy (show c + 1 < w by omega) hp
        rw [e1]
        have hR : ∀ u, rmB W x0 y0 w h u = true ↔ rmB W x0 y0 (c + 1) h u = true ∨ rmB W (x0 + c + 1) y0 (w - c - 1) h u = true := fun u => by
          rw [rm_iff, rm_iff, rm_iff]; omega
        have hAB : ∀ u, rmB W x0 y0 (c + 1) h u = true → rmB W (x0 + c + 1) y0 (w - c - 1) h u = true → False := fun u h1 h2 => by
          rw [rm_iff] at h1 h2; omega
        have hnX : ∀ {A B : Nat → Bool}, (∀ c, A c = true → B c = true → False) → ∀ g, (A (aN x y g) = true ∧ A (bN x y g) = true ∨ B (aN x y g) = true ∧ B (bN x y g) = true) → ¬ Xg x y A B g := fun hd g hh hx => by
          rcases hh with hh | hh <;> rcases hx with hx | hx
          · exact hd _ hh.2 hx.2
          · exact hd _ hh.1 hx.1
          · exact hd _ hx.1 hh.1
          · exact hd _ hx.2 hh.2
        have hfA : Fu x y m1 (rmB W x0 y0 (c + 1) h) := fun g hgl ha hb => by
          rw [hwa.2.2 g hgl (hnX hAB g (.inl ⟨ha, hb⟩))]; exact hfu g hgl ((hR _).2 (.inl ha)) ((hR _).2 (.inl hb))
        obtain ⟨m2, e2, d2⟩ := divided hg cs f m1 (k + 2) x0 y0 (c + 1) h (by omega) hh (by omega) hy (by omega) h1 hfA
        generalize dvF x y cs f ((m1 : Int), k + 2) x0 y0 (c + 1) h = s2 at *
        obtain ⟨o2, k2⟩ := s2
        have e2 : o2 = (m2 : Int) := e2
        subst e2
        have hfB : Fu x y m2 (rmB W (x0 + c + 1) y0 (w - c - 1) h) := fun g hgl ha hb => by
          rw [d2.2.2 g hgl (fun hh => hAB _ hh.1 ha), hwa.2.2 g hgl (hnX hAB g (.inr ⟨ha, hb⟩))]; exact hfu g hgl ((hR _).2 (.inr ha)) ((hR _).2 (.inr hb))
        obtain ⟨m3, e3, d3⟩ := divided hg cs f m2 k2 (x0 + c + 1) y0 (w - c - 1) h (by omega) hh (by omega) hy (by omega) d2.1 hfB
        refine ⟨m3, e3, ?_⟩
        have e : w * h = (c + 1) * h + (w - c - 1) * h := by rw [← Nat.add_mul]; congr 1; omega
        rw [e]
        exact divide hR hAB hfu hwa (fun _ => d2) (fun _ => d3)
theorem top_is (x y : Int) : topZ x y = ((2 ^ gN x y - 1 : Nat) : Int) := by
  have h := Nat.pow_pos (n := gN x y) (show 0 < 2 by decide)
  unfold topZ
  rw [show (gpsZ x y).toNat = gN x y from rfl]
  have e : ((2 ^ gN x y - 1 : Nat) : Int) = ((2 ^ gN x y : Nat) : Int) - 1 := by omega
  rw [e]
  push_cast
  rfl
theorem bt_top {G g : Nat} (h : g < G) : bt (2 ^ G - 1) g = 1 := by
  have := bt_test (2 ^ G - 1) g
  rw [Nat.testBit_two_pow_sub_one, decide_eq_true h] at this
  exact of_decide_eq_true this.symm
theorem pc_cnt (m : Nat) : ∀ n, pcN m n = cnt (fun g => decide (bt m g = 1)) n
  | 0 => rfl
  | n + 1 => by
    have hb := bt_le m n
    rw [pcN, cnt, pc_cnt m n]
    by_cases e : bt m n = 1
    · rw [if_pos (decide_eq_true e)]; unfold bt at e; omega
    · rw [if_neg (by simp [e])]; unfold bt at e hb; omega
theorem dm_perfect (hk : OkZ x y) (cs : List Int) : ipB x y (dmO x y cs) = true := by
  obtain ⟨h1, h2, h3, h4⟩ := id hk
  have hg : Gd x y x.toNat y.toNat := ⟨hk, by omega, by omega⟩
  have hbd := hg.bd
  have hcn := hg.cn
  have hpow := Nat.pow_pos (n := gN x y) (show 0 < 2 by decide)
  have hall : ∀ c, c < cN x y → rmB x.toNat 0 0 x.toNat y.toNat c = true := fun c hc => by
    rw [rm_iff]
    have := Nat.mod_lt c (show 0 < x.toNat by omega)
    have := Nat.div_lt_of_lt_mul (show c < x.toNat * y.toNat by omega)
    exact ⟨Nat.zero_le _, by omega, Nat.zero_le _, by omega⟩
  obtain ⟨m', e, d1, ⟨d2, d3⟩, d4⟩ := divided hg cs 8 (2 ^ gN x y - 1) 0 0 0 x.toNat y.toNat (by omega) (by omega) (by omega) (by omega) (by omega) (by omega) (fun g hgl _ _ => bt_top hgl)
  unfold dmO dmS
  rw [if_pos (show 1 ≤ x ∧ x ≤ 4 ∧ 1 ≤ y ∧ y ≤ 4 from hk), top_is, e]
  refine few_perfect hk d1 ?_ fun k hkN => ?_
  · have hc : cnt (rpB x y m' (rmB x.toNat 0 0 x.toNat y.toNat)) (gN x y) = pcN m' (gN x y) := by
      rw [pc_cnt]
      refine cnt_ext fun g hgl => ?_
      obtain ⟨l1, l2, -, -⟩ := ends_lt hk hgl
      unfold rpB
      rw [hall _ (by omega), hall _ l2]; simp
    rw [hc] at d3
    omega
  · have := d2 k 0 (hall k hkN) (hall 0 (by omega))
    exact this (Cn x y m') (cn_refl m') (fun _ _ => cn_symm) (fun _ _ _ => cn_trans) fun g hgl hb _ _ => cn_gap (okm hk d1) hgl hb
/-- What the law asks. -/
theorem growing (hk : OkZ x y) (cs : List Int) : ipB x y (gmO x y cs) = true ∧ ipB x y (dmO x y cs) = true ∧ 0 ≤ crZ x y := ⟨grown hk cs, dm_perfect hk cs, cr_ge x y⟩
end
end Go.Proofs.Ythakbjdkcdppjaa.grwR
