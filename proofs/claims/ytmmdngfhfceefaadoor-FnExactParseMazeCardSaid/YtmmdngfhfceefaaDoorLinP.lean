/- Drawings, without the program: the lines of a maze, how a maze is read back from them, and how many places are open. -/
import Derived.Test.YtmmdngfhfceefaaDoorDeadP
namespace Go.Proofs.YtmmdngfhfceefaaDoor.linP
open gridP gridQ bitP mazeP mazeQ reachP reachM reachN reachD forest deadP
set_option linter.unusedVariables false

/-- The gap that is drawn at a place, -1 where there is none. -/
def gzZ (x y : Int) (r c : Nat) : Int :=
  if r % 2 = 1 then (if c % 2 = 0 ∧ 0 < c ∧ (c : Int) < 2 * x then gpZ x y (((r / 2 : Nat) : Int) * x + ((c / 2 : Nat) : Int) - 1) 1 else -1)
  else if c % 2 = 1 ∧ 0 < r ∧ (r : Int) < 2 * y then gpZ x y (((r / 2 : Nat) : Int) * x + ((c / 2 : Nat) : Int) - x) 2 else -1
/-- Whether a place is open. -/
def chB (x y z : Int) (r c : Nat) : Bool :=
  if r % 2 = 1 then (if c % 2 = 1 then true else decide (0 < c ∧ (c : Int) < 2 * x) && decide (0 ≤ stZ x y z (((r / 2 : Nat) : Int) * x + ((c / 2 : Nat) : Int) - 1) 1))
  else decide (c % 2 = 1 ∧ 0 < r ∧ (r : Int) < 2 * y) && decide (0 ≤ stZ x y z (((r / 2 : Nat) : Int) * x + ((c / 2 : Nat) : Int) - x) 2)
/-- How many places a line has, how many lines there are. -/
def cW (x : Int) : Nat := (2 * x + 1).toNat
def chU (b : Bool) : UInt8 := if b = true then 32 else 35
def lnL (x y z : Int) (r : Nat) : List UInt8 := (List.range (cW x)).map fun c => chU (chB x y z r c)
def mlL (x y z : Int) : List (List UInt8) := if OkM x y z then (List.range (cW y)).map (lnL x y z) else []
/-- Where a gap is drawn. -/
def eB (x y : Int) (k : Nat) : Bool := decide (ebZ x y k = eaZ x y k + 1 ∧ (k : Int) < (x - 1) * y)
def plR (x y : Int) (k : Nat) : Nat := (2 * (eaZ x y k / x) + 1).toNat + if eB x y k = true then 0 else 1
def plC (x y : Int) (k : Nat) : Nat := (2 * (eaZ x y k % x) + 1).toNat + if eB x y k = true then 1 else 0

/-- Whether a gap, if it is one, is open. -/
def opB (o : Nat) (v : Int) : Bool := decide (0 ≤ v ∧ bt o v.toNat = 1)
theorem op_iff {o : Nat} {v : Int} : opB o v = true ↔ ∃ g : Nat, v = (g : Int) ∧ bt o g = 1 := by
  unfold opB
  rw [decide_eq_true_iff]
  exact ⟨fun ⟨h, h'⟩ => ⟨v.toNat, by omega, h'⟩, fun ⟨g, h, h'⟩ => by subst h; exact ⟨by omega, by simpa using h'⟩⟩
theorem st_gz {x y : Int} {o : Nat} (hv : OkM x y o) (k d : Int) : decide (0 ≤ stZ x y o k d) = opB o (gpZ x y k d) := by
  rw [Bool.eq_iff_iff, op_iff, decide_eq_true_iff]
  by_cases hn : nbZ x y k d < 0
  · refine ⟨fun h => absurd h (st_neg hn), fun ⟨g, h, _⟩ => ?_⟩
    unfold gpZ at h; rw [if_pos hn] at h; omega
  · have h0 := (both x y k d hn).1
    rw [st_pos hv hn, Int.toNat_natCast]
    refine ⟨fun h => ⟨(gpZ x y k d).toNat, by omega, h⟩, fun ⟨g, h, hb⟩ => by rw [h]; simpa using hb⟩
/-- A place is open where it is in a cell, or its gap is open. -/
theorem ch_gz {x y : Int} {o : Nat} (hv : OkM x y o) (r c : Nat) : chB x y o r c = (decide (r % 2 = 1 ∧ c % 2 = 1) || opB o (gzZ x y r c)) := by
  have hnone : opB o (-1) = false := by rw [← Bool.not_eq_true, op_iff]; rintro ⟨g, h, _⟩; omega
  unfold chB gzZ
  by_cases hr : r % 2 = 1
  · rw [if_pos hr, if_pos hr]
    by_cases hc : c % 2 = 1
    · rw [if_pos hc, decide_eq_true (show r % 2 = 1 ∧ c % 2 = 1 from ⟨hr, hc⟩)]; rfl
    · rw [if_neg hc, decide_eq_false (fun h : r % 2 = 1 ∧ c % 2 = 1 => hc h.2), Bool.false_or]
      by_cases h : 0 < c ∧ (c : Int) < 2 * x
      · rw [decide_eq_true h, Bool.true_and, st_gz hv, if_pos ⟨by omega, h.1, h.2⟩]
      · rw [decide_eq_false h, Bool.false_and, if_neg (fun e => h ⟨e.2.1, e.2.2⟩), hnone]
  · rw [if_neg hr, if_neg hr, decide_eq_false (fun h : r % 2 = 1 ∧ c % 2 = 1 => hr h.1), Bool.false_or]
    by_cases h : c % 2 = 1 ∧ 0 < r ∧ (r : Int) < 2 * y
    · rw [decide_eq_true h, Bool.true_and, st_gz hv, if_pos h]
    · rw [decide_eq_false h, Bool.false_and, if_neg h, hnone]

/-! ### where the gaps are drawn -/
theorem place_fin : ∀ w h : Fin 4, ∀ g : Fin 24, (gpsZ ((w : Nat) + 1) ((h : Nat) + 1) ≤ (g : Nat)) ∨
    (gzZ ((w : Nat) + 1) ((h : Nat) + 1) (plR ((w : Nat) + 1) ((h : Nat) + 1) g) (plC ((w : Nat) + 1) ((h : Nat) + 1) g) = ((g : Nat) : Int) ∧ plR ((w : Nat) + 1) ((h : Nat) + 1) g < cW ((h : Nat) + 1) ∧ plC ((w : Nat) + 1) ((h : Nat) + 1) g < cW ((w : Nat) + 1) ∧
      ¬ (plR ((w : Nat) + 1) ((h : Nat) + 1) g % 2 = 1 ∧ plC ((w : Nat) + 1) ((h : Nat) + 1) g % 2 = 1)) := by decide +kernel
theorem sums_fin : ∀ w h : Fin 4, (smN (fun r => cnt (fun c => decide (r % 2 = 1 ∧ c % 2 = 1)) (cW ((w : Nat) + 1))) (cW ((h : Nat) + 1)) : Int) = (((w : Nat) : Int) + 1) * ((h : Nat) + 1) ∧
    ∀ g : Fin 24, (gpsZ ((w : Nat) + 1) ((h : Nat) + 1) ≤ (g : Nat)) ∨ smN (fun r => cnt (fun c => gzZ ((w : Nat) + 1) ((h : Nat) + 1) r c == ((g : Nat) : Int)) (cW ((w : Nat) + 1))) (cW ((h : Nat) + 1)) = 1 := by decide +kernel
section
variable {x y : Int}
theorem place {g : Nat} (hk : OkZ x y) (hg : g < gN x y) : gzZ x y (plR x y g) (plC x y g) = (g : Int) ∧ plR x y g < cW y ∧ plC x y g < cW x ∧ ¬ (plR x y g % 2 = 1 ∧ plC x y g % 2 = 1) := by
  obtain ⟨h1, h2, h3, h4⟩ := hk
  have hb := gps_bd h1 h2 h3 h4
  unfold gN at hg
  have := place_fin ⟨(x - 1).toNat, by omega⟩ ⟨(y - 1).toNat, by omega⟩ ⟨g, by omega⟩
  simp only [show (((x - 1).toNat : Nat) : Int) + 1 = x by omega, show (((y - 1).toNat : Nat) : Int) + 1 = y by omega] at this
  rcases this with h | h
  · omega
  · exact h
theorem sums (hk : OkZ x y) : (smN (fun r => cnt (fun c => decide (r % 2 = 1 ∧ c % 2 = 1)) (cW x)) (cW y) : Int) = x * y ∧ ∀ g, g < gN x y → smN (fun r => cnt (fun c => gzZ x y r c == (g : Int)) (cW x)) (cW y) = 1 := by
  obtain ⟨h1, h2, h3, h4⟩ := hk
  have hb := gps_bd h1 h2 h3 h4
  have := sums_fin ⟨(x - 1).toNat, by omega⟩ ⟨(y - 1).toNat, by omega⟩
  simp only [show (((x - 1).toNat : Nat) : Int) + 1 = x by omega, show (((y - 1).toNat : Nat) : Int) + 1 = y by omega] at this
  refine ⟨this.1, fun g hg => ?_⟩
  unfold gN at hg
  rcases this.2 ⟨g, by omega⟩ with h | h
  · simp at h; omega
  · exact h
/-- At a gap's place stands whether it is open. -/
theorem ch_place {o g : Nat} (hk : OkZ x y) (ho : o < 2 ^ gN x y) (hg : g < gN x y) : chB x y o (plR x y g) (plC x y g) = decide (bt o g = 1) := by
  obtain ⟨h1, -, -, h2⟩ := place hk hg
  rw [ch_gz (okm hk ho), decide_eq_false h2, Bool.false_or, h1, Bool.eq_iff_iff, op_iff, decide_eq_true_iff]
  refine ⟨fun ⟨j, e, h⟩ => ?_, fun h => ⟨g, rfl, h⟩⟩
  obtain rfl : g = j := by omega
  exact h

/-! ### how many places are open -/
theorem smN_add {f g h : Nat → Nat} : ∀ {n : Nat}, (∀ k, k < n → h k = f k + g k) → smN h n = smN f n + smN g n
  | 0, _ => rfl
  | n + 1, he => by unfold smN; rw [smN_add (n := n) fun k hk => he k (by omega), he n (by omega)]; omega
def spN (x y z : Int) : Nat := smN (fun r => cnt (chB x y z r) (cW x)) (cW y)
theorem sp_add {o g : Nat} (hk : OkZ x y) (ho : o < 2 ^ gN x y) (hg : g < gN x y) (hb : bt o g = 0) : spN x y (o + 2 ^ g : Nat) = spN x y o + 1 := by
  have hv := okm hk ho
  have hlt := add_lt ho hg hb
  have hv' := okm hk hlt
  unfold spN
  rw [← (sums hk).2 g hg]
  refine smN_add fun r _ => cnt_or (fun c _ => ?_) fun c _ h1 h2 => ?_
  · rw [ch_gz hv, ch_gz hv', Bool.or_assoc]
    congr 1
    rw [Bool.eq_iff_iff, Bool.or_eq_true, op_iff, op_iff, beq_iff_eq]
    refine ⟨fun ⟨j, e, hj⟩ => ?_, ?_⟩
    · rw [bt_add hb] at hj
      split at hj
      · rename_i e'; subst e'; exact .inr e
      · exact .inl ⟨j, e, hj⟩
    · rintro (⟨j, e, hj⟩ | e)
      · refine ⟨j, e, ?_⟩
        rw [bt_add hb]; split
        · rfl
        · exact hj
      · exact ⟨g, e, by rw [bt_add hb, if_pos rfl]⟩
  · have h2' : gzZ x y r c = (g : Int) := by simpa using h2
    rw [ch_gz hv, Bool.or_eq_true, decide_eq_true_iff, op_iff] at h1
    rcases h1 with ⟨a, b⟩ | ⟨j, e, hj⟩
    · unfold gzZ at h2'
      rw [if_pos a, if_neg (by omega)] at h2'; omega
    · obtain rfl : j = g := by omega
      omega
theorem sp_none (hk : OkZ x y) : (spN x y (0 : Nat) : Int) = x * y := by
  rw [← (sums hk).1]
  unfold spN
  congr 1
  refine smN_ext fun r _ => cnt_ext fun c _ => ?_
  have h0 : opB 0 (gzZ x y r c) = false := by rw [← Bool.not_eq_true, op_iff]; rintro ⟨g, _, h⟩; simp [bt] at h
  rw [ch_gz (okm hk (Nat.pow_pos (by decide))), h0, Bool.or_false]
/-- The open places are the cells and the passages. -/
theorem sp_is {o : Nat} (hk : OkZ x y) (ho : o < 2 ^ gN x y) : (spN x y o : Int) = x * y + pcN o (gN x y) := by
  have key : ∀ k, k ≤ gN x y → (spN x y (o % 2 ^ k : Nat) : Int) = x * y + pcN (o % 2 ^ k) (gN x y) := by
    intro k
    induction k with
    | zero =>
      intro _
      have : ∀ k, pcN 0 k = 0 := fun k => by
        induction k with
        | zero => rfl
        | succ k ih => rw [pcN, ih]; simp
      rw [Nat.pow_zero, Nat.mod_one, sp_none hk, this]; simp
    | succ k ih =>
      intro hkG
      have ih := ih (by omega)
      have hlt : o % 2 ^ k < 2 ^ gN x y := Nat.lt_of_lt_of_le (Nat.mod_lt _ (Nat.pow_pos (by decide))) (Nat.pow_le_pow_right (by decide) (by omega))
      have h0 : bt (o % 2 ^ k) k = 0 := by rw [bt_mod, if_neg (by omega)]
      rw [mod_next]
      have hb := bt_le o k
      by_cases h : bt o k = 1
      · rw [h, Nat.mul_one, sp_add hk hlt (by omega) h0, pc_add h0 (by omega)]
        omega
      · rw [show bt o k = 0 by omega, Nat.mul_zero, Nat.add_zero]; exact ih
  have := key (gN x y) (Nat.le_refl _)
  rwa [Nat.mod_eq_of_lt ho] at this

/-! ### read back -/
/-- What stands at a place of lines. -/
def atL (ls : List (List UInt8)) (r c : Nat) : Option UInt8 := (ls[r]?).bind fun l => l[c]?
/-- The open gaps among the first k, as they are read. -/
def rdN (x y : Int) (ls : List (List UInt8)) : Nat → Int
  | 0 => 0
  | k + 1 => if atL ls (plR x y k) (plC x y k) = some 32 then rdN x y ls k + 2 ^ k else rdN x y ls k
theorem ml_at {z : Int} (hv : OkM x y z) {r c : Nat} (hr : r < cW y) (hc : c < cW x) : atL (mlL x y z) r c = some (chU (chB x y z r c)) := by
  unfold atL mlL lnL
  rw [if_pos hv, List.getElem?_map, List.getElem?_range hr]
  simp only [Option.map_some, Option.bind_some]
  rw [List.getElem?_map, List.getElem?_range hc]; rfl
theorem chU_open (b : Bool) : chU b = 32 ↔ b = true := by cases b <;> decide
theorem rd_is {o : Nat} (hk : OkZ x y) (ho : o < 2 ^ gN x y) : ∀ k, k ≤ gN x y → rdN x y (mlL x y o) k = ((o % 2 ^ k : Nat) : Int)
  | 0, _ => by simp [rdN, Nat.mod_one]
  | k + 1, hkG => by
    obtain ⟨-, p1, p2, -⟩ := place hk (show k < gN x y by omega)
    have ih := rd_is hk ho k (by omega)
    unfold rdN
    rw [ml_at (okm hk ho) p1 p2, ch_place hk ho (by omega), ih, mod_next]
    have hb := bt_le o k
    by_cases h : bt o k = 1
    · rw [if_pos (by rw [decide_eq_true h]; rfl), h]; simp
    · rw [if_neg (by rw [decide_eq_false h]; decide), show bt o k = 0 by omega]; simp
theorem ml_len {z : Int} (hv : OkM x y z) : (mlL x y z).length = cW y := by unfold mlL; rw [if_pos hv]; simp
theorem ml_line {z : Int} (hv : OkM x y z) : ∃ l, (mlL x y z)[0]? = some l ∧ l.length = cW x := by
  refine ⟨lnL x y z 0, ?_, by simp [lnL]⟩
  unfold mlL
  rw [if_pos hv, List.getElem?_map, List.getElem?_range (by obtain ⟨⟨h1, h2, h3, h4⟩, -⟩ := hv; unfold cW; omega)]; rfl
/-- A maze is read back from its lines: no other maze has them. -/
theorem read_back {z : Int} (hv : OkM x y z) {x' y' z' : Int} (hv' : OkM x' y' z') (he : mlL x' y' z' = mlL x y z) : x' = x ∧ y' = y ∧ z' = z := by
  have hx : cW x' = cW x := by
    obtain ⟨l, h1, h2⟩ := ml_line hv
    obtain ⟨l', h1', h2'⟩ := ml_line hv'
    rw [he, h1] at h1'
    cases h1'; omega
  have hy : cW y' = cW y := by rw [← ml_len hv, ← ml_len hv', he]
  obtain ⟨⟨h1, h2, h3, h4⟩, -⟩ := id hv
  obtain ⟨⟨g1, g2, g3, g4⟩, -⟩ := id hv'
  have e1 : x' = x := by unfold cW at hx; omega
  have e2 : y' = y := by unfold cW at hy; omega
  subst e1 e2
  obtain ⟨hk, o, rfl, ho⟩ := okm_of hv
  obtain ⟨-, o', rfl, ho'⟩ := okm_of hv'
  have r1 := rd_is hk ho (gN x' y') (Nat.le_refl _)
  have r2 := rd_is hk ho' (gN x' y') (Nat.le_refl _)
  rw [Nat.mod_eq_of_lt ho] at r1
  rw [Nat.mod_eq_of_lt ho'] at r2
  rw [he, r1] at r2
  exact ⟨rfl, rfl, r2.symm⟩
end
end Go.Proofs.YtmmdngfhfceefaaDoor.linP
