/- The contract of the model's exact division: over a graph's matrix it answers the minor. -/
import Derived.Test.YtnfnandpcjgmmaaModD
import Derived.Test.YtnfnandpcjgmmaaCntQ
import Derived.Test.YtnfnandpcjgmmaaCntF
import Derived.Test.YtnfnandpcjgmmaaCntA

namespace Go.Proofs.Ytnfnandpcjgmmaa.cntM
open Go.ChangeShapes Go.WideShapes Go.ChangeAt Go.RowKit
open draw gridP gridC gridE bitP mazeP mazeC mazeM mazeR mazeS intsP reachD intA intK listK rowsP detP trsP barP barQ matP matM matQ
set_option linter.unusedVariables false

/-! ### square lists of rows as functions -/
def mtr (n : Nat) (f : Nat → Int) : List Int := (List.range n).map f
def mtl (n : Nat) (f : Nat → Nat → Int) : List (List Int) := (List.range n).map fun i => mtr n (f i)
theorem mtr_len (n : Nat) (f : Nat → Int) : (mtr n f).length = n := by simp [mtr]
theorem mtl_len (n : Nat) (f : Nat → Nat → Int) : (mtl n f).length = n := by simp [mtl]
theorem mtr_at {n j : Nat} (f : Nat → Int) (h : j < n) : (mtr n f)[j]? = some (f j) := by unfold mtr; rw [List.getElem?_map, List.getElem?_range h]; rfl
theorem mtl_at {n i : Nat} (f : Nat → Nat → Int) (h : i < n) : (mtl n f)[i]? = some (mtr n (f i)) := by unfold mtl; rw [List.getElem?_map, List.getElem?_range h]; rfl
theorem mtr_ext {n : Nat} {f g : Nat → Int} (h : ∀ j, j < n → f j = g j) : mtr n f = mtr n g := List.map_congr_left fun j hj => h j (List.mem_range.1 hj)
theorem mtl_ext {n : Nat} {f g : Nat → Nat → Int} (h : ∀ i j, i < n → j < n → f i j = g i j) : mtl n f = mtl n g := List.map_congr_left fun i hi => mtr_ext fun j hj => h i j (List.mem_range.1 hi) hj
theorem mtr_set {n j : Nat} {f g : Nat → Int} {z : Int} (hj : j < n) (h1 : g j = z) (h : ∀ q, q ≠ j → g q = f q) : (mtr n f).set j z = mtr n g := by
  apply List.ext_getElem?
  intro q
  rw [List.getElem?_set]
  by_cases e : j = q
  · subst e
    rw [if_pos rfl, if_pos (by rw [mtr_len]; exact hj), mtr_at g hj, h1]
  · rw [if_neg e]
    by_cases hq : q < n
    · rw [mtr_at f hq, mtr_at g hq, h q (fun e' => e e'.symm)]
    · rw [List.getElem?_eq_none (by rw [mtr_len]; omega), List.getElem?_eq_none (by rw [mtr_len]; omega)]
theorem mtl_set {n i j : Nat} {f g : Nat → Nat → Int} {z : Int} (hi : i < n) (hj : j < n) (h1 : g i j = z) (h : ∀ p q, ¬ (p = i ∧ q = j) → g p q = f p q) : (mtl n f).set i ((mtr n (f i)).set j z) = mtl n g := by
  rw [mtr_set (g := g i) hj h1 fun q hq => h i q (fun e => hq e.2)]
  apply List.ext_getElem?
  intro p
  rw [List.getElem?_set]
  by_cases e : i = p
  · subst e
    rw [if_pos rfl, if_pos (by rw [mtl_len]; exact hi), mtl_at g hi]
  · rw [if_neg e]
    by_cases hp : p < n
    · rw [mtl_at f hp, mtl_at g hp]
      congr 1
      exact mtr_ext fun q _ => (h p q (fun e' => e e'.1.symm)).symm
    · rw [List.getElem?_eq_none (by rw [mtl_len]; omega), List.getElem?_eq_none (by rw [mtl_len]; omega)]
theorem mtl_of {ls : List (List Int)} {n : Nat} (h : ls.length = n) (h' : ∀ l ∈ ls, l.length = n) : ls = mtl n (mfn ls) := by
  apply List.ext_getElem?
  intro i
  by_cases hi : i < n
  · rw [mtl_at _ hi, List.getElem?_eq_getElem (by omega)]
    congr 1
    have hl := h' _ (List.getElem_mem (by omega : i < ls.length))
    apply List.ext_getElem?
    intro j
    by_cases hj : j < n
    · rw [mtr_at _ hj, List.getElem?_eq_getElem (by omega)]
      congr 1
      have e0 : ls.getD i [] = ls[i]'(by omega) := by rw [List.getD_eq_getElem?_getD, List.getElem?_eq_getElem (by omega)]; rfl
      unfold mfn
      rw [e0, List.getD_eq_getElem?_getD, List.getElem?_eq_getElem (by omega)]; rfl
    · rw [List.getElem?_eq_none (by omega), List.getElem?_eq_none (by rw [mtr_len]; omega)]
  · rw [List.getElem?_eq_none (by omega), List.getElem?_eq_none (by rw [mtl_len]; omega)]

/-! ### while a round goes on -/
/-- What stands while round k is at row i, column j. -/
def fz (a : Nat → Nat → Int) (k i j : Nat) : Nat → Nat → Int := fun p q => if p < i ∨ (p = i ∧ q < j) then bz a (k + 1) p q else bz a k p q
theorem bz_low {a : Nat → Nat → Int} {k p q : Nat} (h : ¬ (k < p ∧ k < q)) : bz a (k + 1) p q = bz a k p q := by rw [bz_succ, if_neg h]
theorem fz_start (a : Nat → Nat → Int) (k : Nat) : fz a k (k + 1) 0 = bz a k := by
  funext p q; unfold fz; split
  · exact bz_low (by omega)
  · rfl
theorem fz_row (a : Nat → Nat → Int) (k i : Nat) : fz a k i (k + 1) = fz a k i 0 := by
  funext p q; unfold fz
  by_cases h1 : p < i ∨ (p = i ∧ q < 0)
  · rw [if_pos h1, if_pos (by omega)]
  · rw [if_neg h1]; split
    · exact bz_low (by omega)
    · rfl
theorem fz_here (a : Nat → Nat → Int) {k i j : Nat} (hi : k < i) (hj : k < j) : fz a k i j i j = bz a k i j ∧ fz a k i j k k = bz a k k k ∧ fz a k i j i k = bz a k i k ∧ fz a k i j k j = bz a k k j := by
  unfold fz
  refine ⟨by rw [if_neg (by omega)], ?_, ?_, ?_⟩
  · rw [if_pos (by omega)]; exact bz_low (by omega)
  · rw [if_pos (by omega)]; exact bz_low (by omega)
  · rw [if_pos (by omega)]; exact bz_low (by omega)
theorem fz_next (a : Nat → Nat → Int) {k i j : Nat} : fz a k i (j + 1) i j = bz a (k + 1) i j ∧ ∀ p q, ¬ (p = i ∧ q = j) → fz a k i (j + 1) p q = fz a k i j p q := by
  unfold fz
  refine ⟨by rw [if_pos (by omega)], fun p q h => ?_⟩
  by_cases h1 : p < i ∨ (p = i ∧ q < j)
  · rw [if_pos h1, if_pos (by omega)]
  · rw [if_neg h1, if_neg (by omega)]
theorem fz_end (a : Nat → Nat → Int) (k i n : Nat) : mtl n (fz a k i n) = mtl n (fz a k (i + 1) 0) := mtl_ext fun p q hp hq => by
  unfold fz
  by_cases h1 : p < i ∨ (p = i ∧ q < n)
  · rw [if_pos h1, if_pos (by omega)]
  · rw [if_neg h1, if_neg (by omega)]
theorem fz_all (a : Nat → Nat → Int) (k n : Nat) : mtl n (fz a k n 0) = mtl n (bz a (k + 1)) := mtl_ext fun p q hp hq => by
  unfold fz; rw [if_pos (by omega)]

/-! ### rows in memory -/
/-- A row was built by one append: what the rows are then. -/
theorem row_copied {W X X2 : World} {b q : Nat} {ls : List (List Int)} {v v2 : Value} {l : List Int} (h : ML W b ls v X)
    (g1 : (X.alloc (.cells #[] 3)).grownBy X2 (some X.heap.size)) (hq : q = l.length) (o2 : X2.ownsRow X.heap.size 3 1 v2 q (icells l)) :
    ∃ cs : List Value, X2.ownsRow b 69 1 v ls.length cs ∧ ∀ (o : Obj) (X5 : World) (gg cap : Nat), X5.ownsRow b 69 1 (.slice (some ⟨gg, 0, none⟩) (ls.length + 1) cap) (ls.length + 1) (cs ++ [v2]) → (X2.alloc o).grownBy X5 v.ownBlock →
      ML W b (ls ++ [l]) (.slice (some ⟨gg, 0, none⟩) (ls.length + 1) cap) X5 := by
  subst hq
  have b1 : Below X.heap.size X X2 := ((Below.refl _ _).alloc (Nat.le_refl _) _).grown g1 (by simp) (fun g hk => by cases hk; exact Nat.le_refl _)
  obtain ⟨cs, c1, c3, c4, c5⟩ := h.parts
  have e1 := own_call c1 b1
  refine ⟨cs, e1, fun o X5 gg cap h5 hg => ?_⟩
  refine ((h.call b1).app ⟨e1, fun i k hk => ?_, c4⟩ (own_base o2 h.2.2.1) (fun i c g hc hg' e => ?_) h5 hg).1
  · obtain ⟨c, d1, d2, d3⟩ := c3 i k hk
    exact ⟨c, d1, own_call d2 b1, fun g hg => Nat.lt_of_lt_of_le (d3 g hg) b1.size⟩
  · have := c5 i c g hc hg'
    have := (o2.lt g e).1
    omega
/-- A row of a square list, its cells. -/
theorem mt_row {W X : World} {b g n c : Nat} {f : Nat → Nat → Int} (h : ML W b (mtl n f) (.slice (some ⟨g, 0, none⟩) n c) X) {i : Nat} (hi : i < n) :
    ∃ gi ci, X.cell? ⟨g, i, none⟩ = some (.slice (some ⟨gi, 0, none⟩) n ci) ∧ ∀ j, j < n → X.cell? ⟨gi, j, none⟩ = some (.int .i64 (f i j)) ∧ X.frozen? ⟨gi, j, none⟩ = false ∧
      ∀ (f' : Nat → Nat → Int) (z : Int), f' i j = z → (∀ p q, ¬ (p = i ∧ q = j) → f' p q = f p q) → ML W b (mtl n f') (.slice (some ⟨g, 0, none⟩) n c) (X.setCell ⟨gi, j, none⟩ (.int .i64 z)) := by
  have hl := mtl_at f hi
  obtain ⟨hn, g', eg, hb, hgt, hgs, Ai, ci, e1, e2, e3⟩ := h.2.2.2.row hl
  cases eg
  rw [mtr_len] at e1 e2 e3
  obtain ⟨gi, ci', e4, -, -⟩ := own_some e2 (by omega)
  injection e4 with e5 _ e6
  subst e5 e6
  refine ⟨gi, ci, e1, fun j hj => ⟨own_cellI e2 (mtr_at (f i) hj), e2.frozenAt j, fun f' z h1 h2 => ?_⟩⟩
  have hra : RowAt X b (.slice (some ⟨g, 0, none⟩) n c) (mtl n f).length i (.slice (some ⟨gi, 0, none⟩) (mtr n (f i)).length ci) := by
    have := row_at h.2.2.2 (by rw [mtl_len]; exact hi) e1
    rw [mtl_len, mtr_len]; exact this
  obtain ⟨m1, m2, m3, m4⟩ := h.2.2.2.put (j := j) hl hra z
  rw [mtl_set hi hj h1 h2] at m1
  have hsz : (X.setCell ⟨gi, j, none⟩ (.int .i64 z)).heap.size = X.heap.size := by simp [World.setCell]
  refine ⟨h.1.setCell (show W.heap.size ≤ gi by have := h.2.1; omega) _, h.2.1, by rw [hsz]; exact h.2.2.1, by rw [hsz]; exact m1⟩

/-- Two rows lie apart, and apart from the list. -/
theorem mt_apart {W X : World} {b g n c p k gp gk cp ck : Nat} {f : Nat → Nat → Int} (h : ML W b (mtl n f) (.slice (some ⟨g, 0, none⟩) n c) X) (hp : p < n) (hk : k < n) (hne : p ≠ k)
    (ep : X.cell? ⟨g, p, none⟩ = some (.slice (some ⟨gp, 0, none⟩) n cp)) (ek : X.cell? ⟨g, k, none⟩ = some (.slice (some ⟨gk, 0, none⟩) n ck)) : gp ≠ gk ∧ gp ≠ g := by
  obtain ⟨cs, h1, h2, h3, h4⟩ := h.2.2.2
  rw [mtl_len] at h1
  have e1 := (h1.cellAt p (by omega)).symm.trans ep
  have e2 := (h1.cellAt k (by omega)).symm.trans ek
  refine ⟨fun e => h4 p k _ _ gp e1 e2 hne rfl (by rw [e]; rfl), fun e => ?_⟩
  obtain ⟨d, d1, d2, -⟩ := h3 p _ (mtl_at f hp)
  rw [e1] at d1
  cases d1
  rcases splP.own_ne d2 h1 (by decide) with e' | e'
  · cases e'
  · exact e' (by rw [← e]; rfl)
theorem mt_put {W X : World} {b g n c i j gi ci : Nat} {f f' : Nat → Nat → Int} {z : Int} (h : ML W b (mtl n f) (.slice (some ⟨g, 0, none⟩) n c) X) (hi : i < n) (hj : j < n)
    (e : X.cell? ⟨g, i, none⟩ = some (.slice (some ⟨gi, 0, none⟩) n ci)) (h1 : f' i j = z) (h2 : ∀ p q, ¬ (p = i ∧ q = j) → f' p q = f p q) : ML W b (mtl n f') (.slice (some ⟨g, 0, none⟩) n c) (X.setCell ⟨gi, j, none⟩ (.int .i64 z)) := by
  obtain ⟨gi', ci', e', hr⟩ := mt_row h hi
  rw [e] at e'
  cases e'
  exact (hr j hj).2.2 f' z h1 h2
theorem prod_bd {x y : Int} (hx : -16777216 ≤ x ∧ x ≤ 16777216) (hy : -16777216 ≤ y ∧ y ≤ 16777216) : -281474976710656 ≤ x * y ∧ x * y ≤ 281474976710656 := by
  have h1 : (x + 16777216) * (16777216 - y) ≥ 0 := Int.mul_nonneg (by omega) (by omega)
  have h2 : (x + 16777216) * (y + 16777216) ≥ 0 := Int.mul_nonneg (by omega) (by omega)
  have h3 : (16777216 - x) * (16777216 - y) ≥ 0 := Int.mul_nonneg (by omega) (by omega)
  have h4 : (16777216 - x) * (y + 16777216) ≥ 0 := Int.mul_nonneg (by omega) (by omega)
  have e1 : (x + 16777216) * (16777216 - y) = 16777216 * x - x * y + 281474976710656 - 16777216 * y := by
    rw [Int.add_mul, Int.mul_sub, Int.mul_sub]; omega
  have e2 : (x + 16777216) * (y + 16777216) = x * y + 16777216 * x + 16777216 * y + 281474976710656 := by
    rw [Int.add_mul, Int.mul_add, Int.mul_add]; omega
  have e3 : (16777216 - x) * (16777216 - y) = 281474976710656 - 16777216 * y - 16777216 * x + x * y := by
    rw [Int.sub_mul, Int.mul_sub, Int.mul_sub]; omega
  have e4 : (16777216 - x) * (y + 16777216) = 16777216 * y + 281474976710656 - x * y - 16777216 * x := by
    rw [Int.sub_mul, Int.mul_add, Int.mul_add]; omega
  omega

set_option maxRecDepth 100000 in
set_option maxHeartbeats 8000000 in
theorem trees_any {G : Nat} {u v : Nat → Nat} {E : Nat → Bool} {w : Nat → Nat} (a : Nat → Nat → Int) (ha : ∀ i j, a i j = lap G u v E (w i) (w j)) (A : Option Addr) (n c : Nat) (W : World) (hn : n ≤ 16) (hG : G ≤ 24)
    (hw : ∀ i j, i < n → j < n → w i = w j → i = j) (hi : MxIn W W.heap.size A (mtl n a)) :
    Calls Try.prog 74 #[.slice A n c] W (Nm (dm (lap G u v E) ((List.range n).map w)) W) := by
  obtain ⟨j0, hj0, hy0, hy1, hy2⟩ := info_parts info_row
  obtain ⟨i0, hi0, hz0, hz1, hz2⟩ := info_parts info_int
  have hbr := graph_br hw ha
  have HK := @Lib.hid _ (fun w' z h b => @nm_mk z (dm (lap G u v E) ((List.range n).map w)) W w' h b)
  rw [← hbr] at HK ⊢
  have HBz := Lib.hid (fun (k i j : Nat) (hk : k ≤ n) (h : ∀ t, t < k → bz a t t t ≠ 0) (hi : k ≤ i) (hj : k ≤ j) (hin : i < n) (hjn : j < n) => graph_bz hw ha hk h hi hj hin hjn)
  have HP : Hid ((2 : Int) ^ G ≤ 16777216) := Lib.hid (by
    have h := Nat.pow_le_pow_right (show 0 < 2 by decide) hG
    have e : ((2 : Int) ^ G) = ((2 ^ G : Nat) : Int) := by simp
    have e2 : (2 ^ 24 : Nat) = 16777216 := rfl
    rw [e]; omega)
  have HBr : Hid (brZ a n = if n = 0 then 1 else if (List.range (n - 1)).any (fun k => bz a k k k == 0) = true then 0 else bz a (n - 1) (n - 1) (n - 1)) := Lib.hid rfl
  have HI := Lib.hid hi
  have hol0 := Lib.hid (ml_new (Below.refl W.heap.size W) (Nat.le_refl _))
  clear hbr hw ha hG hi
  generalize brZ a n = r at *
  go_enter Try.func74, Try.ntmps74
  go_wp2_with fail
  go_loopw [4, 5] (fun u4 u5 wr => ∃ i : Nat, i ≤ n ∧ u5 = .int .i64 i ∧ ML W W.heap.size ((mtl n a).take i) u4 wr) (fun _ u5 _ => n - (intOf u5).toNat)
  case atStart => exact ⟨0, Nat.zero_le _, rfl, hol0.out⟩
  case round =>
    clear hol0
    obtain ⟨i, hin, rfl, hol1⟩ := hrel
    have hol := Lib.hid hol1
    clear hol1
    obtain ⟨A4, c4, rfl⟩ := hol.out.form
    have hlen : ((mtl n a).take i).length = i := by rw [List.length_take, mtl_len]; omega
    have hol2 : Hid (ML W W.heap.size ((mtl n a).take i) (.slice A4 i c4) wr) := Lib.hid (by have := hol.out; rw [hlen] at this; exact this)
    clear hol
    have hol := hol2
    clear hol2
    rw [hlen]
    have hi0' : (0 : Int) ≤ (i : Int) := Int.natCast_nonneg _
    by_cases hi1 : i < n
    · have hi2 : (i : Int) < (n : Int) := by omega
      have hd : decide ((i : Int) < (n : Int)) = true := decide_eq_true hi2
      obtain ⟨ad, rfl, hab, A1, c1, ea0, ra, hc1, hc2⟩ := mx_cell2 HI.out (mtl_at a hi1)
      rw [mtr_len] at ea0 hc1
      obtain ⟨ai, rfl, hai, hcs⟩ := ra (by intro e; have := mtr_len n (a i); rw [e] at this; simp at this; omega)
      have HCs : Hid (∀ X, Below W.heap.size W X → ∀ j u, (mtr n (a i))[j]? = some u → X.cell? (ai.add j) = some (.int .i64 u)) := Lib.hid fun X hb j u hj => (hb.cell (by rw [block_of_add]; exact hai)).trans (hcs j u hj)
      have HB1 := Lib.hid (hol.out.1.alloc hol.out.1.size (.cells #[] 3))
      have ea : (wr.alloc (.cells #[] 3)).cell? (ad.add i) = some (.slice (some ai) n c1) := (HB1.out.cell (by rw [block_of_add]; exact hab)).trans ea0
      have HO : Hid ((wr.alloc (.cells #[] 3)).ownsRow wr.heap.size 3 1 (.slice (some ⟨wr.heap.size, 0, none⟩) 0 0) 0 []) := Lib.hid (ol_new (Below.refl wr.heap.size wr) (Nat.le_refl _)).2.2.2
      have HTk : Hid ((mtl n a).take (i + 1) = (mtl n a).take i ++ [mtr n (a i)]) := Lib.hid (by rw [List.take_add_one, mtl_at a hi1]; rfl)
      have HT1 : Hid ((icells (mtr n (a i))).length = n * 1) := Lib.hid (by rw [icells_length, mtr_len, Nat.mul_one])
      clear hcs ea0 ra
      go_wp2_with (at_builtin; first | (refine wpList_append_lies _ rfl (.tmp 19) (.tmp 23) 69 rfl wr.heap.size 3 i0 _ 1 8 Try.underlying69 hi0 hz0 hz1 hz2 rfl (by decide) _ 0 [] rfl HO.out ai n c1 (icells (mtr n (a i))) rfl HT1.out (cells_int (HCs.out _ HB1.out)) (oneCellI _) (by omega) (by unfold maxLen; omega) (by omega) (by simp) _ rfl ?_; intro g1 cap1 w2 o2 g2 hat hlt2; clear hat; rw [Nat.zero_add, List.nil_append] at o2; have HRC := Lib.hid (row_copied hol.out g2 (mtr_len n (a i)).symm o2); have HB2 := Lib.hid (below_step HB1.out hol.out.1.size (Nat.le_refl _) HO.out g2); clear o2 g2) | (obtain ⟨cs, hcs, hcsN⟩ := HRC.out; rw [hlen] at hcs hcsN; refine wpList_append_lies _ rfl (.tmp 18) (.tmp 25) 67 rfl W.heap.size 69 j0 _ 1 24 Try.underlying67 hj0 hy0 hy1 hy2 rfl (by decide) _ i cs rfl (hcs.alloc _) ⟨w2.heap.size, 0, none⟩ 1 1 [.slice (some ⟨g1, 0, none⟩) n cap1] rfl rfl (news_eqI rfl (heap_alloc_new w2 _)) (fun u hu => by rw [List.mem_singleton.1 hu]; rfl) (by omega) (by unfold maxLen; omega) (by omega) (by have := HB2.out.size; simp; omega) _ rfl ?_; intro gg cap w5 o5 g5 hat hlt2; clear hat hlt2; have HM5 := Lib.hid (hcsN _ w5 gg cap o5 g5); clear o5 g5 hcsN hcs))
      go_roundw
      case rel => exact ⟨i + 1, by omega, by go_num, by rw [HTk.out]; exact HM5.out⟩
      case measure => simp [intOf]; omega
    · obtain rfl : i = n := by omega
      have hd : decide ((i : Int) < (i : Int)) = false := by simp
      have hm : (mtl i a).take i = mtl i (bz a 0) := by rw [List.take_of_length_le (by rw [mtl_len]; exact Nat.le_refl _)]; rfl
      have hol3 := hol.out
      rw [hm] at hol3
      have hol := Lib.hid hol3
      clear hm hol3 HI
      rcases Nat.eq_zero_or_pos i with h0 | h0
      · subst h0
        have he : 1 = r := by rw [HBr.out]; rfl
        have HBl := Lib.hid hol.out.1
        clear HBr hol
        go_wp2_with fail
        go_loopw [7] (fun u7 wr => u7 = .int .i64 0 ∧ Below W.heap.size W wr) (fun _ _ => 0)
        case atStart => exact ⟨rfl, HBl.out⟩
        case round =>
          clear HBl
          obtain ⟨rfl, hbl⟩ := hrel
          have HBl := Lib.hid hbl
          clear hbl
          go_wp2_with fail
          go_ret
          exact HK.out _ _ he HBl.out
      · obtain ⟨g, rfl⟩ : ∃ g, A4 = some ⟨g, 0, none⟩ := by
          obtain ⟨-, g, e, -⟩ := hol.out.2.2.2.row (mtl_at (bz a 0) h0)
          exact ⟨g, e⟩
        obtain ⟨κ, hκ⟩ : ∃ κ, i - 1 = κ := ⟨_, rfl⟩
        have hik : (i : Int) - 1 = (κ : Int) := by omega
        have hwk : IntKind.i64.wrap (κ : Int) = (κ : Int) := IntWalk.i64_in _ (by omega)
        have hne : ((i : Int) == 0) = false := by rw [beq_eq_false_iff_ne]; omega
        go_wp2_with fail
        go_loopw [6, 7] (fun u6 u7 wr => ∃ k : Nat, k ≤ κ ∧ u7 = .int .i64 k ∧ u6 = .int .i64 (bv a k) ∧ (∀ t, t < k → bz a t t t ≠ 0) ∧ ML W W.heap.size (mtl i (bz a k)) (.slice (some ⟨g, 0, none⟩) i c4) wr) (fun _ u7 _ => i - (intOf u7).toNat)
        case atStart => exact ⟨0, Nat.zero_le _, rfl, rfl, fun t ht => absurd ht (Nat.not_lt_zero t), hol.out⟩
        case round =>
          clear hol
          obtain ⟨k, hk, rfl, rfl, hpv, hol0⟩ := hrel
          have hol := Lib.hid hol0
          have HPv := Lib.hid hpv
          clear hol0 hpv
          by_cases hkκ : k < κ
          · have hd2 : decide ((k : Int) < (κ : Int)) = true := decide_eq_true (by omega)
            have hk0 : (0 : Int) ≤ (k : Int) := Int.natCast_nonneg _
            have hk1 : (k : Int) < (i : Int) := by omega
            obtain ⟨gk, ck, rk, ek⟩ := mt_row hol.out (show k < i by omega)
            obtain ⟨ekk, -, -⟩ := ek k (by omega)
            by_cases hz : bz a k k k = 0
            · have he : 0 = r := by
                rw [HBr.out, if_neg (by omega), if_pos]
                exact List.any_eq_true.2 ⟨k, List.mem_range.2 (by omega), by rw [hz]; rfl⟩
              rw [hz] at ekk
              clear ek HBr
              go_wp2_with fail
              go_ret
              exact HK.out _ _ he hol.out.1
            · have hwk1 : IntKind.i64.wrap ((k : Int) + 1) = (k : Int) + 1 := IntWalk.i64_in _ (by omega)
              have hpz : ((bz a k k k) == 0) = false := by rw [beq_eq_false_iff_ne]; exact hz
              have HPv2 : Hid (∀ t, t < k + 1 → bz a t t t ≠ 0) := Lib.hid fun t ht => by
                by_cases e : t = k
                · rw [e]; exact hz
                · exact HPv.out t (by omega)
              have hbd1 := HBz.out k k k (by omega) HPv.out (Nat.le_refl _) (Nat.le_refl _) (by omega) (by omega)
              have hdv : bv a k ≠ 0 := by rw [hbd1.2.2.2.1]; have := hbd1.2.2.2.2; omega
              have hdv0 : (bv a k = 0) = False := by simp [hdv]
              have hkz : bz a k k k = bv a (k + 1) := rfl
              have HKz := Lib.hid hkz
              have HNw : Hid (∀ p q, k < p → k < q → p < i → q < i → ∃ nv, bz a (k + 1) p q = nv ∧ (-16777216 ≤ nv ∧ nv ≤ 16777216) ∧ (bz a k p q * bz a k k k - bz a k p k * bz a k k q).tdiv (bv a k) = nv ∧
                  (-16777216 ≤ bz a k p q ∧ bz a k p q ≤ 16777216) ∧ (-16777216 ≤ bz a k k k ∧ bz a k k k ≤ 16777216) ∧ (-16777216 ≤ bz a k p k ∧ bz a k p k ≤ 16777216) ∧ (-16777216 ≤ bz a k k q ∧ bz a k k q ≤ 16777216)) := Lib.hid fun p q hp hq hpi hqi => by
                have h0 := HBz.out (k + 1) p q (by omega) HPv2.out (by omega) (by omega) hpi hqi
                have h1 := HBz.out k p q (by omega) HPv.out (by omega) (by omega) hpi hqi
                have h2 := HBz.out k p k (by omega) HPv.out (by omega) (Nat.le_refl _) hpi (by omega)
                have h3 := HBz.out k k q (by omega) HPv.out (Nat.le_refl _) (by omega) (by omega) hqi
                have hP := HP.out
                refine ⟨_, rfl, ⟨by omega, by omega⟩, ?_, ⟨by omega, by omega⟩, ⟨by omega, by omega⟩, ⟨by omega, by omega⟩, ⟨by omega, by omega⟩⟩
                rw [bz_succ, if_pos ⟨hp, hq⟩]
              clear ek hbd1 hkz hdv
              obtain ⟨pv, hpvE⟩ : ∃ z, bz a k k k = z := ⟨_, rfl⟩
              obtain ⟨dv, hdvE⟩ : ∃ z, bv a k = z := ⟨_, rfl⟩
              rw [hpvE] at ekk hz hpz
              rw [hdvE] at hdv0
              have HPE := Lib.hid hpvE
              have HDE := Lib.hid hdvE
              rw [hdvE]
              clear hpvE hdvE
              go_wp2_with fail
              go_loopw [8] (fun u8 wq => ∃ p : Nat, k + 1 ≤ p ∧ p ≤ i ∧ u8 = .int .i64 p ∧ ML W W.heap.size (mtl i (fz a k p 0)) (.slice (some ⟨g, 0, none⟩) i c4) wq) (fun u8 _ => i - (intOf u8).toNat)
              case atStart => exact ⟨k + 1, Nat.le_refl _, by omega, by go_num, by rw [fz_start]; exact hol.out⟩
              case round =>
                clear hol rk ekk
                obtain ⟨p, hp0, hp1, rfl, hol0⟩ := hrel
                have hol := Lib.hid hol0
                clear hol0
                by_cases hpi : p < i
                · have hd3 : decide ((p : Int) < (i : Int)) = true := decide_eq_true (by omega)
                  have hp2 : (0 : Int) ≤ (p : Int) := Int.natCast_nonneg _
                  have hp3 : (p : Int) < (i : Int) := by omega
                  go_wp2_with fail
                  go_loopw [9] (fun u9 wq => ∃ q : Nat, k + 1 ≤ q ∧ q ≤ i ∧ u9 = .int .i64 q ∧ ML W W.heap.size (mtl i (fz a k p q)) (.slice (some ⟨g, 0, none⟩) i c4) wq) (fun u9 _ => i - (intOf u9).toNat)
                  case atStart => exact ⟨k + 1, Nat.le_refl _, by omega, by go_num, by rw [fz_row]; exact hol.out⟩
                  case round =>
                    clear hol
                    obtain ⟨q, hq0, hq1, rfl, hol0⟩ := hrel
                    have hol := Lib.hid hol0
                    clear hol0
                    by_cases hqi : q < i
                    · have hd4 : decide ((q : Int) < (i : Int)) = true := decide_eq_true (by omega)
                      have hq2 : (0 : Int) ≤ (q : Int) := Int.natCast_nonneg _
                      have hq3 : (q : Int) < (i : Int) := by omega
                      obtain ⟨f1, f2, f3, f4⟩ := fz_here a (show k < p by omega) (show k < q by omega)
                      obtain ⟨n1, n2⟩ := fz_next a (k := k) (i := p) (j := q)
                      obtain ⟨gp, cp, rp, ep⟩ := mt_row hol.out hpi
                      obtain ⟨gk, ck, rk, ek⟩ := mt_row hol.out (show k < i by omega)
                      obtain ⟨epq, fpq, hput⟩ := ep q hqi
                      obtain ⟨epk, -, -⟩ := ep k (by omega)
                      obtain ⟨ekk, -, -⟩ := ek k (by omega)
                      obtain ⟨ekq, -, -⟩ := ek q hqi
                      obtain ⟨nv, hnv, ⟨b1, b2⟩, hdiv, hb11, hb22, hb12, hb21⟩ := HNw.out p q (by omega) (by omega) hpi hqi
                      obtain ⟨hgk, hgg⟩ := mt_apart hol.out hpi (show k < i by omega) (show p ≠ k by omega) rp rk
                      rw [f1] at epq
                      rw [f3] at epk
                      rw [f2] at ekk
                      rw [f4] at ekq
                      have HPut := Lib.hid (mt_put hol.out.dr hpi hqi rp (by rw [n1, hnv]) n2)
                      have w1 := prod_bd hb11 hb22
                      have w2 := prod_bd hb12 hb21
                      have q1 : IntKind.i64.wrap (bz a k p q * bz a k k k) = bz a k p q * bz a k k k := IntWalk.i64_in _ (by omega)
                      have q2 : IntKind.i64.wrap (bz a k p k * bz a k k q) = bz a k p k * bz a k k q := IntWalk.i64_in _ (by omega)
                      have q3 : IntKind.i64.wrap (bz a k p q * bz a k k k - bz a k p k * bz a k k q) = bz a k p q * bz a k k k - bz a k p k * bz a k k q := IntWalk.i64_in _ (by omega)
                      have q4 : IntKind.i64.wrap nv = nv := IntWalk.i64_in _ (by omega)
                      rw [HDE.out] at hdiv
                      clear ep ek hput f1 f2 f3 f4 n1 n2 hnv hb11 hb22 hb12 hb21 w1 w2 b1 b2
                      generalize bz a k p q = x11 at *
                      generalize bz a k k k = x22 at *
                      generalize bz a k p k = x12 at *
                      generalize bz a k k q = x21 at *
                      go_wp2_with fail
                      try simp only [List.cons_append, List.nil_append, List.append_eq]
                      refine wp_region_held_drew (S := (fun w' => w'.cell? ⟨g, p, none⟩ = some (.slice (some ⟨gp, 0, none⟩) i cp) ∧ w'.cell? ⟨g, k, none⟩ = some (.slice (some ⟨gk, 0, none⟩) i ck) ∧ w'.cell? ⟨gp, k, none⟩ = some (.int .i64 x12) ∧ w'.cell? ⟨gk, k, none⟩ = some (.int .i64 x22) ∧ w'.cell? ⟨gk, q, none⟩ = some (.int .i64 x21))) (by kernel_rfl) ?_ (fun hHeld0 => ?_)
                      · (try dsimp only); go_keep
                      refine wpAnyH_take (i := 0) (oi := { dst := some 55, op := Go.Op.move (Go.Operand.tmp 4), type := 67, pos := "l11_det.go:65", after := #[], guard := none }) (v := ?_) rfl (by kernel_rfl) (by kernel_rfl) (by kernel_rfl) (fun _ _ _ h => h) (Or.inl ⟨by rfl, ?_⟩) (by assumption) ?_
                      rotate_left
                      · (intro w hSw; (try dsimp only at hSw); go_simp; try with_reducible rfl)
                      try simp only [Act.put, List.setIfInBounds_toArray, List.set_cons_zero, List.set_cons_succ]
                      refine wpAnyH_take (i := 1) (oi := { dst := some 56, op := Go.Op.move (Go.Operand.tmp 8), type := 3, pos := "l11_det.go:65", after := #[], guard := none }) (v := ?_) rfl (by kernel_rfl) (by kernel_rfl) (by kernel_rfl) (fun _ _ _ h => h) (Or.inl ⟨by rfl, ?_⟩) (by assumption) ?_
                      rotate_left
                      · (intro w hSw; (try dsimp only at hSw); go_simp; try with_reducible rfl)
                      try simp only [Act.put, List.setIfInBounds_toArray, List.set_cons_zero, List.set_cons_succ]
                      refine wpAnyH_take (i := 2) (oi := { dst := some 57, op := Go.Op.indexAddr 67 (Go.Operand.tmp 55) (Go.Operand.tmp 56), type := 0, pos := "l11_det.go:65", after := #[{ on := 0, ground := Go.Ground.data }, { on := 1, ground := Go.Ground.data }], guard := none }) (v := ?_) rfl (by kernel_rfl) (by kernel_rfl) (by kernel_rfl) (fun _ _ _ h => h) (Or.inl ⟨by rfl, ?_⟩) (by assumption) ?_
                      rotate_left
                      · (intro w hSw; (try dsimp only at hSw); go_simp; try with_reducible rfl)
                      try simp only [Act.put, List.setIfInBounds_toArray, List.set_cons_zero, List.set_cons_succ]
                      refine wpAnyH_take (i := 3) (oi := { dst := some 58, op := Go.Op.load 69 (Go.Operand.tmp 57), type := 69, pos := "l11_det.go:65", after := #[{ on := 2, ground := Go.Ground.data }], guard := none }) (v := ?_) rfl (by kernel_rfl) (by kernel_rfl) (by kernel_rfl) (fun _ _ _ h => h) (Or.inl ⟨by rfl, ?_⟩) (by assumption) ?_
                      rotate_left
                      · (intro w hSw; (try dsimp only at hSw); go_simp; try with_reducible rfl)
                      try simp only [Act.put, List.setIfInBounds_toArray, List.set_cons_zero, List.set_cons_succ]
                      refine wpAnyH_take (i := 4) (oi := { dst := some 59, op := Go.Op.move (Go.Operand.tmp 9), type := 3, pos := "l11_det.go:65", after := #[], guard := none }) (v := ?_) rfl (by kernel_rfl) (by kernel_rfl) (by kernel_rfl) (fun _ _ _ h => h) (Or.inl ⟨by rfl, ?_⟩) (by assumption) ?_
                      rotate_left
                      · (intro w hSw; (try dsimp only at hSw); go_simp; try with_reducible rfl)
                      try simp only [Act.put, List.setIfInBounds_toArray, List.set_cons_zero, List.set_cons_succ]
                      refine wpAnyH_take (i := 5) (oi := { dst := some 60, op := Go.Op.move (Go.Operand.tmp 4), type := 67, pos := "l11_det.go:65", after := #[], guard := none }) (v := ?_) rfl (by kernel_rfl) (by kernel_rfl) (by kernel_rfl) (fun _ _ _ h => h) (Or.inl ⟨by rfl, ?_⟩) (by assumption) ?_
                      rotate_left
                      · (intro w hSw; (try dsimp only at hSw); go_simp; try with_reducible rfl)
                      try simp only [Act.put, List.setIfInBounds_toArray, List.set_cons_zero, List.set_cons_succ]
                      refine wpAnyH_take (i := 6) (oi := { dst := some 61, op := Go.Op.move (Go.Operand.tmp 8), type := 3, pos := "l11_det.go:65", after := #[], guard := none }) (v := ?_) rfl (by kernel_rfl) (by kernel_rfl) (by kernel_rfl) (fun _ _ _ h => h) (Or.inl ⟨by rfl, ?_⟩) (by assumption) ?_
                      rotate_left
                      · (intro w hSw; (try dsimp only at hSw); go_simp; try with_reducible rfl)
                      try simp only [Act.put, List.setIfInBounds_toArray, List.set_cons_zero, List.set_cons_succ]
                      refine wpAnyH_take (i := 7) (oi := { dst := some 62, op := Go.Op.indexAddr 67 (Go.Operand.tmp 60) (Go.Operand.tmp 61), type := 0, pos := "l11_det.go:65", after := #[{ on := 5, ground := Go.Ground.data }, { on := 6, ground := Go.Ground.data }], guard := none }) (v := ?_) rfl (by kernel_rfl) (by kernel_rfl) (by kernel_rfl) (fun _ _ _ h => h) (Or.inl ⟨by rfl, ?_⟩) (by assumption) ?_
                      rotate_left
                      · (intro w hSw; (try dsimp only at hSw); go_simp; try with_reducible rfl)
                      try simp only [Act.put, List.setIfInBounds_toArray, List.set_cons_zero, List.set_cons_succ]
                      refine wpAnyH_take (i := 8) (oi := { dst := some 63, op := Go.Op.load 69 (Go.Operand.tmp 62), type := 69, pos := "l11_det.go:65", after := #[{ on := 7, ground := Go.Ground.data }], guard := none }) (v := ?_) rfl (by kernel_rfl) (by kernel_rfl) (by kernel_rfl) (fun _ _ _ h => h) (Or.inl ⟨by rfl, ?_⟩) (by assumption) ?_
                      rotate_left
                      · (intro w hSw; (try dsimp only at hSw); go_simp; try with_reducible rfl)
                      try simp only [Act.put, List.setIfInBounds_toArray, List.set_cons_zero, List.set_cons_succ]
                      refine wpAnyH_take (i := 9) (oi := { dst := some 64, op := Go.Op.move (Go.Operand.tmp 9), type := 3, pos := "l11_det.go:65", after := #[], guard := none }) (v := ?_) rfl (by kernel_rfl) (by kernel_rfl) (by kernel_rfl) (fun _ _ _ h => h) (Or.inl ⟨by rfl, ?_⟩) (by assumption) ?_
                      rotate_left
                      · (intro w hSw; (try dsimp only at hSw); go_simp; try with_reducible rfl)
                      try simp only [Act.put, List.setIfInBounds_toArray, List.set_cons_zero, List.set_cons_succ]
                      refine wpAnyH_take (i := 10) (oi := { dst := some 65, op := Go.Op.indexAddr 69 (Go.Operand.tmp 63) (Go.Operand.tmp 64), type := 0, pos := "l11_det.go:65", after := #[{ on := 8, ground := Go.Ground.data }, { on := 9, ground := Go.Ground.data }], guard := none }) (v := ?_) rfl (by kernel_rfl) (by kernel_rfl) (by kernel_rfl) (fun _ _ _ h => h) (Or.inl ⟨by rfl, ?_⟩) (by assumption) ?_
                      rotate_left
                      · (intro w hSw; (try dsimp only at hSw); go_simp; try with_reducible rfl)
                      try simp only [Act.put, List.setIfInBounds_toArray, List.set_cons_zero, List.set_cons_succ]
                      refine wpAnyH_take (i := 12) (oi := { dst := some 67, op := Go.Op.move (Go.Operand.tmp 4), type := 67, pos := "l11_det.go:65", after := #[], guard := none }) (v := ?_) rfl (by kernel_rfl) (by kernel_rfl) (by kernel_rfl) (fun _ _ _ h => h) (Or.inl ⟨by rfl, ?_⟩) (by assumption) ?_
                      rotate_left
                      · (intro w hSw; (try dsimp only at hSw); go_simp; try with_reducible rfl)
                      try simp only [Act.put, List.setIfInBounds_toArray, List.set_cons_zero, List.set_cons_succ]
                      refine wpAnyH_take (i := 13) (oi := { dst := some 68, op := Go.Op.move (Go.Operand.tmp 7), type := 3, pos := "l11_det.go:65", after := #[], guard := none }) (v := ?_) rfl (by kernel_rfl) (by kernel_rfl) (by kernel_rfl) (fun _ _ _ h => h) (Or.inl ⟨by rfl, ?_⟩) (by assumption) ?_
                      rotate_left
                      · (intro w hSw; (try dsimp only at hSw); go_simp; try with_reducible rfl)
                      try simp only [Act.put, List.setIfInBounds_toArray, List.set_cons_zero, List.set_cons_succ]
                      refine wpAnyH_take (i := 14) (oi := { dst := some 69, op := Go.Op.indexAddr 67 (Go.Operand.tmp 67) (Go.Operand.tmp 68), type := 0, pos := "l11_det.go:65", after := #[{ on := 12, ground := Go.Ground.data }, { on := 13, ground := Go.Ground.data }], guard := none }) (v := ?_) rfl (by kernel_rfl) (by kernel_rfl) (by kernel_rfl) (fun _ _ _ h => h) (Or.inl ⟨by rfl, ?_⟩) (by assumption) ?_
                      rotate_left
                      · (intro w hSw; (try dsimp only at hSw); go_simp; try with_reducible rfl)
                      try simp only [Act.put, List.setIfInBounds_toArray, List.set_cons_zero, List.set_cons_succ]
                      refine wpAnyH_take (i := 15) (oi := { dst := some 70, op := Go.Op.load 69 (Go.Operand.tmp 69), type := 69, pos := "l11_det.go:65", after := #[{ on := 14, ground := Go.Ground.data }], guard := none }) (v := ?_) rfl (by kernel_rfl) (by kernel_rfl) (by kernel_rfl) (fun _ _ _ h => h) (Or.inl ⟨by rfl, ?_⟩) (by assumption) ?_
                      rotate_left
                      · (intro w hSw; (try dsimp only at hSw); go_simp; try with_reducible rfl)
                      try simp only [Act.put, List.setIfInBounds_toArray, List.set_cons_zero, List.set_cons_succ]
                      refine wpAnyH_take (i := 16) (oi := { dst := some 71, op := Go.Op.move (Go.Operand.tmp 7), type := 3, pos := "l11_det.go:65", after := #[], guard := none }) (v := ?_) rfl (by kernel_rfl) (by kernel_rfl) (by kernel_rfl) (fun _ _ _ h => h) (Or.inl ⟨by rfl, ?_⟩) (by assumption) ?_
                      rotate_left
                      · (intro w hSw; (try dsimp only at hSw); go_simp; try with_reducible rfl)
                      try simp only [Act.put, List.setIfInBounds_toArray, List.set_cons_zero, List.set_cons_succ]
                      refine wpAnyH_take (i := 17) (oi := { dst := some 72, op := Go.Op.indexAddr 69 (Go.Operand.tmp 70) (Go.Operand.tmp 71), type := 0, pos := "l11_det.go:65", after := #[{ on := 15, ground := Go.Ground.data }, { on := 16, ground := Go.Ground.data }], guard := none }) (v := ?_) rfl (by kernel_rfl) (by kernel_rfl) (by kernel_rfl) (fun _ _ _ h => h) (Or.inl ⟨by rfl, ?_⟩) (by assumption) ?_
                      rotate_left
                      · (intro w hSw; (try dsimp only at hSw); go_simp; try with_reducible rfl)
                      try simp only [Act.put, List.setIfInBounds_toArray, List.set_cons_zero, List.set_cons_succ]
                      refine wpAnyH_take (i := 18) (oi := { dst := some 73, op := Go.Op.load 3 (Go.Operand.tmp 72), type := 3, pos := "l11_det.go:65", after := #[{ on := 17, ground := Go.Ground.data }], guard := none }) (v := ?_) rfl (by kernel_rfl) (by kernel_rfl) (by kernel_rfl) (fun _ _ _ h => h) (Or.inl ⟨by rfl, ?_⟩) (by assumption) ?_
                      rotate_left
                      · (intro w hSw; (try dsimp only at hSw); go_simp; try with_reducible rfl)
                      try simp only [Act.put, List.setIfInBounds_toArray, List.set_cons_zero, List.set_cons_succ]
                      refine wpAnyH_take (i := 20) (oi := { dst := some 75, op := Go.Op.move (Go.Operand.tmp 4), type := 67, pos := "l11_det.go:65", after := #[], guard := none }) (v := ?_) rfl (by kernel_rfl) (by kernel_rfl) (by kernel_rfl) (fun _ _ _ h => h) (Or.inl ⟨by rfl, ?_⟩) (by assumption) ?_
                      rotate_left
                      · (intro w hSw; (try dsimp only at hSw); go_simp; try with_reducible rfl)
                      try simp only [Act.put, List.setIfInBounds_toArray, List.set_cons_zero, List.set_cons_succ]
                      refine wpAnyH_take (i := 21) (oi := { dst := some 76, op := Go.Op.move (Go.Operand.tmp 8), type := 3, pos := "l11_det.go:65", after := #[], guard := none }) (v := ?_) rfl (by kernel_rfl) (by kernel_rfl) (by kernel_rfl) (fun _ _ _ h => h) (Or.inl ⟨by rfl, ?_⟩) (by assumption) ?_
                      rotate_left
                      · (intro w hSw; (try dsimp only at hSw); go_simp; try with_reducible rfl)
                      try simp only [Act.put, List.setIfInBounds_toArray, List.set_cons_zero, List.set_cons_succ]
                      refine wpAnyH_take (i := 22) (oi := { dst := some 77, op := Go.Op.indexAddr 67 (Go.Operand.tmp 75) (Go.Operand.tmp 76), type := 0, pos := "l11_det.go:65", after := #[{ on := 20, ground := Go.Ground.data }, { on := 21, ground := Go.Ground.data }], guard := none }) (v := ?_) rfl (by kernel_rfl) (by kernel_rfl) (by kernel_rfl) (fun _ _ _ h => h) (Or.inl ⟨by rfl, ?_⟩) (by assumption) ?_
                      rotate_left
                      · (intro w hSw; (try dsimp only at hSw); go_simp; try with_reducible rfl)
                      try simp only [Act.put, List.setIfInBounds_toArray, List.set_cons_zero, List.set_cons_succ]
                      refine wpAnyH_take (i := 23) (oi := { dst := some 78, op := Go.Op.load 69 (Go.Operand.tmp 77), type := 69, pos := "l11_det.go:65", after := #[{ on := 22, ground := Go.Ground.data }], guard := none }) (v := ?_) rfl (by kernel_rfl) (by kernel_rfl) (by kernel_rfl) (fun _ _ _ h => h) (Or.inl ⟨by rfl, ?_⟩) (by assumption) ?_
                      rotate_left
                      · (intro w hSw; (try dsimp only at hSw); go_simp; try with_reducible rfl)
                      try simp only [Act.put, List.setIfInBounds_toArray, List.set_cons_zero, List.set_cons_succ]
                      refine wpAnyH_take (i := 24) (oi := { dst := some 79, op := Go.Op.move (Go.Operand.tmp 7), type := 3, pos := "l11_det.go:65", after := #[], guard := none }) (v := ?_) rfl (by kernel_rfl) (by kernel_rfl) (by kernel_rfl) (fun _ _ _ h => h) (Or.inl ⟨by rfl, ?_⟩) (by assumption) ?_
                      rotate_left
                      · (intro w hSw; (try dsimp only at hSw); go_simp; try with_reducible rfl)
                      try simp only [Act.put, List.setIfInBounds_toArray, List.set_cons_zero, List.set_cons_succ]
                      refine wpAnyH_take (i := 25) (oi := { dst := some 80, op := Go.Op.indexAddr 69 (Go.Operand.tmp 78) (Go.Operand.tmp 79), type := 0, pos := "l11_det.go:65", after := #[{ on := 23, ground := Go.Ground.data }, { on := 24, ground := Go.Ground.data }], guard := none }) (v := ?_) rfl (by kernel_rfl) (by kernel_rfl) (by kernel_rfl) (fun _ _ _ h => h) (Or.inl ⟨by rfl, ?_⟩) (by assumption) ?_
                      rotate_left
                      · (intro w hSw; (try dsimp only at hSw); go_simp; try with_reducible rfl)
                      try simp only [Act.put, List.setIfInBounds_toArray, List.set_cons_zero, List.set_cons_succ]
                      refine wpAnyH_take (i := 26) (oi := { dst := some 81, op := Go.Op.load 3 (Go.Operand.tmp 80), type := 3, pos := "l11_det.go:65", after := #[{ on := 25, ground := Go.Ground.data }], guard := none }) (v := ?_) rfl (by kernel_rfl) (by kernel_rfl) (by kernel_rfl) (fun _ _ _ h => h) (Or.inl ⟨by rfl, ?_⟩) (by assumption) ?_
                      rotate_left
                      · (intro w hSw; (try dsimp only at hSw); go_simp; try with_reducible rfl)
                      try simp only [Act.put, List.setIfInBounds_toArray, List.set_cons_zero, List.set_cons_succ]
                      refine wpAnyH_take (i := 27) (oi := { dst := some 82, op := Go.Op.move (Go.Operand.tmp 4), type := 67, pos := "l11_det.go:65", after := #[], guard := none }) (v := ?_) rfl (by kernel_rfl) (by kernel_rfl) (by kernel_rfl) (fun _ _ _ h => h) (Or.inl ⟨by rfl, ?_⟩) (by assumption) ?_
                      rotate_left
                      · (intro w hSw; (try dsimp only at hSw); go_simp; try with_reducible rfl)
                      try simp only [Act.put, List.setIfInBounds_toArray, List.set_cons_zero, List.set_cons_succ]
                      refine wpAnyH_take (i := 28) (oi := { dst := some 83, op := Go.Op.move (Go.Operand.tmp 7), type := 3, pos := "l11_det.go:65", after := #[], guard := none }) (v := ?_) rfl (by kernel_rfl) (by kernel_rfl) (by kernel_rfl) (fun _ _ _ h => h) (Or.inl ⟨by rfl, ?_⟩) (by assumption) ?_
                      rotate_left
                      · (intro w hSw; (try dsimp only at hSw); go_simp; try with_reducible rfl)
                      try simp only [Act.put, List.setIfInBounds_toArray, List.set_cons_zero, List.set_cons_succ]
                      refine wpAnyH_take (i := 29) (oi := { dst := some 84, op := Go.Op.indexAddr 67 (Go.Operand.tmp 82) (Go.Operand.tmp 83), type := 0, pos := "l11_det.go:65", after := #[{ on := 27, ground := Go.Ground.data }, { on := 28, ground := Go.Ground.data }], guard := none }) (v := ?_) rfl (by kernel_rfl) (by kernel_rfl) (by kernel_rfl) (fun _ _ _ h => h) (Or.inl ⟨by rfl, ?_⟩) (by assumption) ?_
                      rotate_left
                      · (intro w hSw; (try dsimp only at hSw); go_simp; try with_reducible rfl)
                      try simp only [Act.put, List.setIfInBounds_toArray, List.set_cons_zero, List.set_cons_succ]
                      refine wpAnyH_take (i := 30) (oi := { dst := some 85, op := Go.Op.load 69 (Go.Operand.tmp 84), type := 69, pos := "l11_det.go:65", after := #[{ on := 29, ground := Go.Ground.data }], guard := none }) (v := ?_) rfl (by kernel_rfl) (by kernel_rfl) (by kernel_rfl) (fun _ _ _ h => h) (Or.inl ⟨by rfl, ?_⟩) (by assumption) ?_
                      rotate_left
                      · (intro w hSw; (try dsimp only at hSw); go_simp; try with_reducible rfl)
                      try simp only [Act.put, List.setIfInBounds_toArray, List.set_cons_zero, List.set_cons_succ]
                      refine wpAnyH_take (i := 31) (oi := { dst := some 86, op := Go.Op.move (Go.Operand.tmp 9), type := 3, pos := "l11_det.go:65", after := #[], guard := none }) (v := ?_) rfl (by kernel_rfl) (by kernel_rfl) (by kernel_rfl) (fun _ _ _ h => h) (Or.inl ⟨by rfl, ?_⟩) (by assumption) ?_
                      rotate_left
                      · (intro w hSw; (try dsimp only at hSw); go_simp; try with_reducible rfl)
                      try simp only [Act.put, List.setIfInBounds_toArray, List.set_cons_zero, List.set_cons_succ]
                      refine wpAnyH_take (i := 32) (oi := { dst := some 87, op := Go.Op.indexAddr 69 (Go.Operand.tmp 85) (Go.Operand.tmp 86), type := 0, pos := "l11_det.go:65", after := #[{ on := 30, ground := Go.Ground.data }, { on := 31, ground := Go.Ground.data }], guard := none }) (v := ?_) rfl (by kernel_rfl) (by kernel_rfl) (by kernel_rfl) (fun _ _ _ h => h) (Or.inl ⟨by rfl, ?_⟩) (by assumption) ?_
                      rotate_left
                      · (intro w hSw; (try dsimp only at hSw); go_simp; try with_reducible rfl)
                      try simp only [Act.put, List.setIfInBounds_toArray, List.set_cons_zero, List.set_cons_succ]
                      refine wpAnyH_take (i := 33) (oi := { dst := some 88, op := Go.Op.load 3 (Go.Operand.tmp 87), type := 3, pos := "l11_det.go:65", after := #[{ on := 32, ground := Go.Ground.data }], guard := none }) (v := ?_) rfl (by kernel_rfl) (by kernel_rfl) (by kernel_rfl) (fun _ _ _ h => h) (Or.inl ⟨by rfl, ?_⟩) (by assumption) ?_
                      rotate_left
                      · (intro w hSw; (try dsimp only at hSw); go_simp; try with_reducible rfl)
                      try simp only [Act.put, List.setIfInBounds_toArray, List.set_cons_zero, List.set_cons_succ]
                      refine wpAnyH_take (i := 34) (oi := { dst := some 89, op := Go.Op.binOp Go.BinOp.mul 3 (Go.Operand.tmp 81) (Go.Operand.tmp 88) 3, type := 3, pos := "l11_det.go:65", after := #[{ on := 26, ground := Go.Ground.data }, { on := 33, ground := Go.Ground.data }], guard := none }) (v := ?_) rfl (by kernel_rfl) (by kernel_rfl) (by kernel_rfl) (fun _ _ _ h => h) (Or.inl ⟨by rfl, ?_⟩) (by assumption) ?_
                      rotate_left
                      · (intro w hSw; (try dsimp only at hSw); go_simp; try with_reducible rfl)
                      try simp only [Act.put, List.setIfInBounds_toArray, List.set_cons_zero, List.set_cons_succ]
                      refine wpAnyH_take (i := 36) (oi := { dst := some 91, op := Go.Op.move (Go.Operand.tmp 6), type := 3, pos := "l11_det.go:65", after := #[], guard := none }) (v := ?_) rfl (by kernel_rfl) (by kernel_rfl) (by kernel_rfl) (fun _ _ _ h => h) (Or.inl ⟨by rfl, ?_⟩) (by assumption) ?_
                      rotate_left
                      · (intro w hSw; (try dsimp only at hSw); go_simp; try with_reducible rfl)
                      try simp only [Act.put, List.setIfInBounds_toArray, List.set_cons_zero, List.set_cons_succ]
                      refine wpAnyH_ready (rs := [11]) (by kernel_rfl) (by simp) ?_
                      refine AllReadyH.cons (o := { dst := some 66, op := Go.Op.load 3 (Go.Operand.tmp 65), type := 3, pos := "l11_det.go:65", after := #[{ on := 10, ground := Go.Ground.data }], guard := none }) rfl (fun K11 hK11 => ?_) AllReadyH.nil
                      go_simp
                      refine hK11.out _ _ ?_ (fun hHeld1 => ?_)
                      · (try dsimp only); go_keep
                      clear hK11 K11 hHeld0
                      try simp only [Act.put, List.setIfInBounds_toArray, List.set_cons_zero, List.set_cons_succ]
                      refine wpAnyH_take (i := 19) (oi := { dst := some 74, op := Go.Op.binOp Go.BinOp.mul 3 (Go.Operand.tmp 66) (Go.Operand.tmp 73) 3, type := 3, pos := "l11_det.go:65", after := #[{ on := 11, ground := Go.Ground.data }, { on := 18, ground := Go.Ground.data }], guard := none }) (v := ?_) rfl (by kernel_rfl) (by kernel_rfl) (by kernel_rfl) (fun _ _ _ h => h) (Or.inl ⟨by rfl, ?_⟩) (by assumption) ?_
                      rotate_left
                      · (intro w hSw; (try dsimp only at hSw); go_simp; try with_reducible rfl)
                      try simp only [Act.put, List.setIfInBounds_toArray, List.set_cons_zero, List.set_cons_succ]
                      refine wpAnyH_take (i := 35) (oi := { dst := some 90, op := Go.Op.binOp Go.BinOp.sub 3 (Go.Operand.tmp 74) (Go.Operand.tmp 89) 3, type := 3, pos := "l11_det.go:65", after := #[{ on := 19, ground := Go.Ground.data }, { on := 34, ground := Go.Ground.data }], guard := none }) (v := ?_) rfl (by kernel_rfl) (by kernel_rfl) (by kernel_rfl) (fun _ _ _ h => h) (Or.inl ⟨by rfl, ?_⟩) (by assumption) ?_
                      rotate_left
                      · (intro w hSw; (try dsimp only at hSw); go_simp; try with_reducible rfl)
                      try simp only [Act.put, List.setIfInBounds_toArray, List.set_cons_zero, List.set_cons_succ]
                      refine wpAnyH_take (i := 37) (oi := { dst := some 92, op := Go.Op.binOp Go.BinOp.quo 3 (Go.Operand.tmp 90) (Go.Operand.tmp 91) 3, type := 3, pos := "l11_det.go:65", after := #[{ on := 35, ground := Go.Ground.data }, { on := 36, ground := Go.Ground.data }], guard := none }) (v := ?_) rfl (by kernel_rfl) (by kernel_rfl) (by kernel_rfl) (fun _ _ _ h => h) (Or.inl ⟨by rfl, ?_⟩) (by assumption) ?_
                      rotate_left
                      · (intro w hSw; (try dsimp only at hSw); go_simp; try with_reducible rfl)
                      try simp only [Act.put, List.setIfInBounds_toArray, List.set_cons_zero, List.set_cons_succ]
                      refine wpAnyH_take (i := 38) (oi := { dst := some 93, op := Go.Op.indexAddr 69 (Go.Operand.tmp 58) (Go.Operand.tmp 59), type := 0, pos := "l11_det.go:65", after := #[{ on := 3, ground := Go.Ground.data }, { on := 4, ground := Go.Ground.data }, { on := 0, ground := Go.Ground.phase }, { on := 1, ground := Go.Ground.phase }, { on := 2, ground := Go.Ground.phase }, { on := 3, ground := Go.Ground.phase }, { on := 4, ground := Go.Ground.phase }, { on := 5, ground := Go.Ground.phase }, { on := 6, ground := Go.Ground.phase }, { on := 7, ground := Go.Ground.phase }, { on := 8, ground := Go.Ground.phase }, { on := 9, ground := Go.Ground.phase }, { on := 10, ground := Go.Ground.phase }, { on := 11, ground := Go.Ground.phase }, { on := 12, ground := Go.Ground.phase }, { on := 13, ground := Go.Ground.phase }, { on := 14, ground := Go.Ground.phase }, { on := 15, ground := Go.Ground.phase }, { on := 16, ground := Go.Ground.phase }, { on := 17, ground := Go.Ground.phase }, { on := 18, ground := Go.Ground.phase }, { on := 19, ground := Go.Ground.phase }, { on := 20, ground := Go.Ground.phase }, { on := 21, ground := Go.Ground.phase }, { on := 22, ground := Go.Ground.phase }, { on := 23, ground := Go.Ground.phase }, { on := 24, ground := Go.Ground.phase }, { on := 25, ground := Go.Ground.phase }, { on := 26, ground := Go.Ground.phase }, { on := 27, ground := Go.Ground.phase }, { on := 28, ground := Go.Ground.phase }, { on := 29, ground := Go.Ground.phase }, { on := 30, ground := Go.Ground.phase }, { on := 31, ground := Go.Ground.phase }, { on := 32, ground := Go.Ground.phase }, { on := 33, ground := Go.Ground.phase }, { on := 34, ground := Go.Ground.phase }, { on := 35, ground := Go.Ground.phase }, { on := 36, ground := Go.Ground.phase }, { on := 37, ground := Go.Ground.phase }], guard := none }) (v := ?_) rfl (by kernel_rfl) (by kernel_rfl) (by kernel_rfl) (fun _ _ _ h => h) (Or.inl ⟨by rfl, ?_⟩) (by assumption) ?_
                      rotate_left
                      · (intro w hSw; (try dsimp only at hSw); go_simp; try with_reducible rfl)
                      try simp only [Act.put, List.setIfInBounds_toArray, List.set_cons_zero, List.set_cons_succ]
                      refine wpAnyH_ready (rs := [39]) (by kernel_rfl) (by simp) ?_
                      refine AllReadyH.cons (o := { dst := none, op := Go.Op.store 3 (Go.Operand.tmp 93) (Go.Operand.tmp 92), type := 0, pos := "l11_det.go:65", after := #[{ on := 38, ground := Go.Ground.data }, { on := 37, ground := Go.Ground.data }, { on := 0, ground := Go.Ground.phase }, { on := 1, ground := Go.Ground.phase }, { on := 2, ground := Go.Ground.phase }, { on := 3, ground := Go.Ground.phase }, { on := 4, ground := Go.Ground.phase }, { on := 5, ground := Go.Ground.phase }, { on := 6, ground := Go.Ground.phase }, { on := 7, ground := Go.Ground.phase }, { on := 8, ground := Go.Ground.phase }, { on := 9, ground := Go.Ground.phase }, { on := 10, ground := Go.Ground.phase }, { on := 11, ground := Go.Ground.phase }, { on := 12, ground := Go.Ground.phase }, { on := 13, ground := Go.Ground.phase }, { on := 14, ground := Go.Ground.phase }, { on := 15, ground := Go.Ground.phase }, { on := 16, ground := Go.Ground.phase }, { on := 17, ground := Go.Ground.phase }, { on := 18, ground := Go.Ground.phase }, { on := 19, ground := Go.Ground.phase }, { on := 20, ground := Go.Ground.phase }, { on := 21, ground := Go.Ground.phase }, { on := 22, ground := Go.Ground.phase }, { on := 23, ground := Go.Ground.phase }, { on := 24, ground := Go.Ground.phase }, { on := 25, ground := Go.Ground.phase }, { on := 26, ground := Go.Ground.phase }, { on := 27, ground := Go.Ground.phase }, { on := 28, ground := Go.Ground.phase }, { on := 29, ground := Go.Ground.phase }, { on := 30, ground := Go.Ground.phase }, { on := 31, ground := Go.Ground.phase }, { on := 32, ground := Go.Ground.phase }, { on := 33, ground := Go.Ground.phase }, { on := 34, ground := Go.Ground.phase }, { on := 35, ground := Go.Ground.phase }, { on := 36, ground := Go.Ground.phase }, { on := 37, ground := Go.Ground.phase }], guard := none }) rfl (fun K39 hK39 => ?_) AllReadyH.nil
                      go_simp
                      refine hK39.out _ _ ?_ (fun hHeld2 => ?_)
                      · (try dsimp only); exact ⟨(World.cell?_setCell_other _ _ _ _ (by simp; try omega)).trans rp, (World.cell?_setCell_other _ _ _ _ (by simp; try omega)).trans rk, (World.cell?_setCell_other _ _ _ _ (by simp; try omega)).trans epk, (World.cell?_setCell_other _ _ _ _ (by simp; try omega)).trans ekk, (World.cell?_setCell_other _ _ _ _ (by simp; try omega)).trans ekq⟩
                      clear hK39 K39 hHeld1
                      try simp only [Act.put, List.setIfInBounds_toArray, List.set_cons_zero, List.set_cons_succ]
                      refine wpAnyH_done (by kernel_rfl) ?_ _
                      go_wp2_with fail
                      go_roundw
                      case rel => exact ⟨q + 1, by omega, by omega, by go_num, HPut.out⟩
                      case measure => simp [intOf]; omega
                    · obtain rfl : q = i := by omega
                      have hd4 : decide ((q : Int) < (q : Int)) = false := by simp
                      have hn0 := hol.out
                      rw [fz_end] at hn0
                      have HN := Lib.hid hn0
                      clear hn0 hol
                      go_wp2_with fail
                      go_roundw
                      case rel => exact ⟨p + 1, by omega, by omega, by go_num, HN.out⟩
                      case measure => simp [intOf]; omega
                · obtain rfl : p = i := by omega
                  have hd3 : decide ((p : Int) < (p : Int)) = false := by simp
                  have hn0 := hol.out
                  rw [fz_all] at hn0
                  have HN := Lib.hid hn0
                  clear hn0 hol
                  obtain ⟨gk, ck, rk, ek⟩ := mt_row HN.out (show k < p by omega)
                  obtain ⟨ekk, -, -⟩ := ek k (by omega)
                  rw [bz_low (by omega), HKz.out] at ekk
                  clear ek
                  go_wp2_with fail
                  go_roundw
                  case rel => exact ⟨k + 1, by omega, by go_num, rfl, HPv2.out, HN.out⟩
                  case measure => simp [intOf]; omega
          · obtain rfl : k = κ := by omega
            have hd2 : decide ((k : Int) < (k : Int)) = false := by simp
            have he : bz a k k k = r := by
              rw [HBr.out, if_neg (by omega), if_neg, hκ]
              intro hany
              obtain ⟨t, ht, e⟩ := List.any_eq_true.1 hany
              exact HPv.out t (by have := List.mem_range.1 ht; omega) (by simpa using e)
            have hk0 : (0 : Int) ≤ (k : Int) := Int.natCast_nonneg _
            have hk1 : (k : Int) < (i : Int) := by omega
            obtain ⟨gk, ck, rk, ek⟩ := mt_row hol.out (show k < i by omega)
            obtain ⟨ekk, -, -⟩ := ek k (by omega)
            rw [he] at ekk
            clear ek HBr he
            go_wp2_with fail
            go_ret
            exact HK.out _ _ rfl hol.out.1
end Go.Proofs.Ytnfnandpcjgmmaa.cntM

/- The contracts of the model's CountTrees and CountWith. -/
namespace Go.Proofs.Ytnfnandpcjgmmaa.cntN
open Go.ChangeShapes Go.WideShapes Go.ChangeAt Go.RowKit
open draw gridP gridC gridE bitP mazeP mazeQ mazeC mazeM mazeR mazeS intsP reachD intA intK listK rowsP detP trsP barP barQ matP matM matQ matR reachM forest cntP cntQ cntM
set_option linter.unusedVariables false

end Go.Proofs.Ytnfnandpcjgmmaa.cntN

/- What the model's counting of trees between parts holds in memory. -/
namespace Go.Proofs.Ytnfnandpcjgmmaa.cntG
open Go.ChangeShapes Go.WideShapes Go.ChangeAt Go.RowKit
open draw gridP gridC gridE bitP mazeP mazeQ mazeC mazeM mazeR mazeS intsP reachD intA intK listK rowsP detP trsP barP barQ matP matM matQ matR matX reachM forest cntP cntQ cntM cntF
open walP (lbN mgN frB fr_iff nD)
set_option linter.unusedVariables false

theorem box_set {b : Nat} {x y : Int} {X : World} (h : Box b x y X) {p : Addr} (hne : p.block ≠ b) (u : Value) : Box b x y (X.setCell p u) := by
  obtain ⟨⟨c0, c1⟩, hl⟩ := h
  have n : ∀ k, p ≠ (⟨b, k, none⟩ : Addr) := fun k e => hne (by rw [e])
  exact ⟨⟨(World.cell?_setCell_other _ _ _ _ (n 0)).trans c0, (World.cell?_setCell_other _ _ _ _ (n 1)).trans c1⟩, by simpa [World.setCell] using hl⟩
theorem box_low {b B : Nat} {x y : Int} {X X' : World} (h : Box b x y X) (hb : b < B) (hw : Below B X X') : Box b x y X' :=
  ⟨⟨(hw.cell (p := ⟨b, 0, none⟩) hb).trans h.1.1, (hw.cell (p := ⟨b, 1, none⟩) hb).trans h.1.2⟩, Nat.lt_of_lt_of_le h.2 hw.size⟩

/-- The grid's box and a list of numbers of the call's own. -/
def GS (W : World) (x y : Int) (Q N : Nat) (D : List Int) (X : World) : Prop :=
  Below W.heap.size W X ∧ Box W.heap.size x y X ∧ X.ownsRow (W.heap.size + 1) 3 1 (.slice (some ⟨Q, 0, none⟩) N N) N (icells D)
theorem GS.lt {W X : World} {x y : Int} {Q N : Nat} {D : List Int} (h : GS W x y Q N D X) : W.heap.size < Q ∧ Q < X.heap.size := by
  have := h.2.2.lt Q rfl
  omega
theorem GS.call {W X X' : World} {x y : Int} {Q N : Nat} {D : List Int} (h : GS W x y Q N D X) (hb : Below X.heap.size X X') : GS W x y Q N D X' := ⟨below_call h.1 hb, h.2.1.call hb, own_call h.2.2 hb⟩
theorem GS.dr {W X : World} {x y : Int} {Q N : Nat} {D : List Int} (h : GS W x y Q N D X) : GS W x y Q N D X.drew := h.call ⟨rfl, rfl, rfl, Nat.le_refl _, fun _ _ => rfl⟩
theorem GS.drs {W X : World} {x y : Int} {Q N : Nat} {D : List Int} (h : GS W x y Q N D X) (n : Nat) : GS W x y Q N D (X.drewN n) := h.call ⟨rfl, rfl, rfl, Nat.le_refl _, fun _ _ => rfl⟩
theorem GS.put {W X : World} {x y : Int} {Q N : Nat} {D : List Int} (h : GS W x y Q N D X) (j : Nat) (u : Int) : GS W x y Q N (D.set j u) (X.setCell ⟨Q, j, none⟩ (.int .i64 u)) := by
  have hq := h.lt
  refine ⟨h.1.setCell (show W.heap.size ≤ Q by omega) _, box_set h.2.1 (show Q ≠ W.heap.size by omega) _, ?_⟩
  have h1 := (h.2.2.stored j (.int .i64 u)).1
  have e : (icells D).set j (.int .i64 u) = icells (D.set j u) := by simp [icells, List.map_set]
  rwa [e] at h1
theorem GS.cell {W X : World} {x y : Int} {Q N : Nat} {f : Nat → Int} (h : GS W x y Q N (mtr N f) X) {j : Nat} (hj : j < N) : X.cell? ⟨Q, j, none⟩ = some (.int .i64 (f j)) ∧ X.frozen? ⟨Q, j, none⟩ = false :=
  ⟨own_cellI h.2.2 (mtr_at f hj), h.2.2.frozenAt j⟩
theorem GS.low {W X X' : World} {x y : Int} {Q N b : Nat} {D : List Int} (h : GS W x y Q N D X) (hQ : Q < b) (hw : Below b X X') (hb : b ≤ X.heap.size) : GS W x y Q N D X' := by
  have hq := h.lt
  exact ⟨h.1.trans (hw.mono (by omega)), box_low h.2.1 (by omega) hw, own_outside (t := b) h.2.2 (fun g e => by cases e; exact hQ) (fun k _ hk _ => hw.block k hk)⟩
theorem gs_make {W : World} {x y : Int} {N : Nat} (T : TypeId) (hN : N ≤ maxLen) : GS W x y (W.heap.size + 1) N (mtr N fun _ => 0) ((W.alloc (.cells #[.int .i64 x, .int .i64 y] T)).alloc (.cells (madeCells (Value.int .i64 0).cells N) 3)) := by
  have hrow := World.ownsRow_lit (base := W.heap.size + 1) (e := 3) (size := 1) (W.alloc (.cells #[.int .i64 x, .int .i64 y] T)) (madeCells (Value.int .i64 0).cells N) N (by simp) hN (by rw [size_madeCells]; omega)
  rw [made_zero] at hrow
  have e : mtr N (fun _ => 0) = List.replicate N 0 := by
    apply List.ext_getElem?
    intro j
    by_cases hj : j < N
    · rw [mtr_at _ hj, List.getElem?_replicate, if_pos hj]
    · rw [List.getElem?_eq_none (by rw [mtr_len]; omega), List.getElem?_eq_none (by simp; omega)]
  have hs : (W.alloc (.cells #[.int .i64 x, .int .i64 y] T)).heap.size = W.heap.size + 1 := by simp
  rw [hs] at hrow
  refine ⟨below_call (below_box _ _) (below_box _ _), (box_new x y W T).call (below_box _ _), ?_⟩
  rw [e]; exact hrow

/-! ### while the places are numbered -/
def pf (L : Nat → Nat) (k : Nat) (v : Int) : Nat → Int := fun c => if c < k then (plc L c : Int) else if c = k then v else 0
/-- What stands at a place while the earlier ones are looked at. -/
def vi (L : Nat → Nat) (k i : Nat) : Int := if (List.range i).any (fun j => L j == L k) = true then (plc L k : Int) else -1
theorem pf_start (L : Nat → Nat) : pf L 0 0 = fun _ => 0 := by
  funext c; unfold pf
  rw [if_neg (Nat.not_lt_zero c)]
  split <;> rfl
theorem pf_put (L : Nat → Nat) (k : Nat) (u v : Int) : pf L k v k = v ∧ ∀ q, q ≠ k → pf L k v q = pf L k u q := by
  unfold pf
  refine ⟨by rw [if_neg (Nat.lt_irrefl k), if_pos rfl], fun q hq => ?_⟩
  by_cases h : q < k
  · rw [if_pos h, if_pos h]
  · rw [if_neg h, if_neg h, if_neg hq, if_neg hq]
theorem pf_at (L : Nat → Nat) {k i : Nat} (v : Int) (h : i < k) : pf L k v i = (plc L i : Int) := by unfold pf; rw [if_pos h]
theorem pf_end (L : Nat → Nat) (k : Nat) : pf L k (plc L k) = pf L (k + 1) 0 := by
  funext c; unfold pf
  by_cases h : c < k
  · rw [if_pos h, if_pos (by omega)]
  · rw [if_neg h]
    by_cases h2 : c = k
    · rw [if_pos h2, if_pos (by omega), h2]
    · rw [if_neg h2, if_neg (by omega)]; split <;> rfl
theorem pf_all (L : Nat → Nat) (N : Nat) : mtr N (pf L N 0) = mtr N fun c => (plc L c : Int) := mtr_ext fun j hj => pf_at L 0 hj
theorem vi_zero (L : Nat → Nat) (k : Nat) : vi L k 0 = -1 := rfl
theorem vi_next (L : Nat → Nat) (k i : Nat) : vi L k (i + 1) = if L i = L k then (plc L k : Int) else vi L k i := by
  unfold vi
  rw [List.range_succ, List.any_append]
  by_cases h : L i = L k
  · rw [if_pos h, if_pos (by simp [h])]
  · rw [if_neg h]
    have : ([i].any fun j => L j == L k) = false := by simp [h]
    rw [this, Bool.or_false]
theorem vi_end (L : Nat → Nat) (k : Nat) : (frB L k = true → vi L k k = -1 ∧ plc L k = cnt (frB L) k) ∧ (frB L k = false → vi L k k = (plc L k : Int)) := by
  constructor
  · intro h
    have h' := (fr_iff L k).1 h
    refine ⟨by unfold vi; rw [if_neg]; intro ha; obtain ⟨j, hj, e⟩ := List.any_eq_true.1 ha; exact h' j (List.mem_range.1 hj) (by simpa using e), ?_⟩
    obtain ⟨f1, f2, -⟩ := fst_spec L k
    have : fst L k = k := by
      rcases Nat.lt_or_ge (fst L k) k with h1 | h1
      · exact absurd f2 (h' _ h1)
      · omega
    unfold plc; rw [this]
  · intro h
    unfold vi
    rw [if_pos]
    apply Classical.byContradiction
    intro hn
    have : frB L k = true := (fr_iff L k).2 fun i hi e => hn (List.any_eq_true.2 ⟨i, List.mem_range.2 hi, by simp [e]⟩)
    rw [this] at h; cases h
/-- A row that lies apart takes its place behind the others. -/
theorem row_app {W X X2 : World} {b : Nat} {ls : List (List Int)} {v v2 : Value} {l : List Int} (h : ML W b ls v X) (b1 : Below X.heap.size X X2) (o2 : X2.ownsRow X.heap.size 3 1 v2 l.length (icells l)) :
    ∃ cs : List Value, X2.ownsRow b 69 1 v ls.length cs ∧ ∀ (o : Obj) (X5 : World) (gg cap : Nat), X5.ownsRow b 69 1 (.slice (some ⟨gg, 0, none⟩) (ls.length + 1) cap) (ls.length + 1) (cs ++ [v2]) → (X2.alloc o).grownBy X5 v.ownBlock →
      ML W b (ls ++ [l]) (.slice (some ⟨gg, 0, none⟩) (ls.length + 1) cap) X5 ∧ Below b X2 X5 := by
  obtain ⟨cs, c1, c3, c4, c5⟩ := h.parts
  have e1 := own_call c1 b1
  refine ⟨cs, e1, fun o X5 gg cap h5 hg => ?_⟩
  refine (h.call b1).app ⟨e1, fun i k hk => ?_, c4⟩ (own_base o2 h.2.2.1) (fun i c g hc hg' e => ?_) h5 hg
  · obtain ⟨c, d1, d2, d3⟩ := c3 i k hk
    exact ⟨c, d1, own_call d2 b1, fun g hg => Nat.lt_of_lt_of_le (d3 g hg) b1.size⟩
  · have := c5 i c g hc hg'
    have := (o2.lt g e).1
    omega
theorem made_row {X : World} {n : Nat} (hn : n ≤ maxLen) : (X.alloc (.cells (madeCells (Value.int .i64 0).cells n) 3)).ownsRow X.heap.size 3 1 (.slice (some ⟨X.heap.size, 0, none⟩) n n) (mtr n fun _ => 0).length (icells (mtr n fun _ => 0)) := by
  have hrow := World.ownsRow_lit (base := X.heap.size) (e := 3) (size := 1) X (madeCells (Value.int .i64 0).cells n) n (Nat.le_refl _) hn (by rw [size_madeCells]; omega)
  rw [made_zero] at hrow
  have e : mtr n (fun _ => 0) = List.replicate n 0 := by
    apply List.ext_getElem?
    intro j
    by_cases hj : j < n
    · rw [mtr_at _ hj, List.getElem?_replicate, if_pos hj]
    · rw [List.getElem?_eq_none (by rw [mtr_len]; omega), List.getElem?_eq_none (by simp; omega)]
  rw [mtr_len, e]; exact hrow
theorem mtl_rep (n : Nat) : List.replicate n (mtr n fun _ => 0) = mtl n fun _ _ => 0 := by
  apply List.ext_getElem?
  intro j
  by_cases hj : j < n
  · rw [mtl_at _ hj, List.getElem?_replicate, if_pos hj]
  · rw [List.getElem?_eq_none (by simp; omega), List.getElem?_eq_none (by rw [mtl_len]; omega)]
theorem two_new (w : World) (o1 o2 : Obj) : ((w.alloc o1).alloc o2).heap[w.heap.size + 1]? = some o2 := by
  have := heap_alloc_new (w.alloc o1) o2
  rwa [show (w.alloc o1).heap.size = w.heap.size + 1 from by simp] at this
/-! ### the matrix, gap by gap -/
theorem lap_zero (u v : Nat → Nat) (E : Nat → Bool) (i j : Nat) : lap 0 u v E i j = 0 := rfl
theorem lap_succ (u v : Nat → Nat) (E : Nat → Bool) (k i j : Nat) : lap (k + 1) u v E i j = lap k u v E i j + if E k = true then inc u v k i * inc u v k j else 0 := by
  unfold lap
  rw [List.range_succ, List.map_append, List.sum_append]; simp
theorem inc_bd (u v : Nat → Nat) (k i : Nat) : -1 ≤ inc u v k i ∧ inc u v k i ≤ 1 := by unfold inc; split <;> split <;> omega
theorem lap_bd (u v : Nat → Nat) (E : Nat → Bool) (i j : Nat) : ∀ k : Nat, -(k : Int) ≤ lap k u v E i j ∧ lap k u v E i j ≤ k
  | 0 => by rw [lap_zero]; omega
  | k + 1 => by
    have ih := lap_bd u v E i j k
    rw [lap_succ]
    have h1 := inc_bd u v k i
    have h2 := inc_bd u v k j
    have h3 : -1 ≤ inc u v k i * inc u v k j ∧ inc u v k i * inc u v k j ≤ 1 := by
      rcases (by omega : inc u v k i = -1 ∨ inc u v k i = 0 ∨ inc u v k i = 1) with e | e | e <;> rw [e] <;> omega
    split <;> omega
theorem lap_skip {u v : Nat → Nat} {E : Nat → Bool} {k : Nat} (h : E k = false ∨ u k = v k) : (fun i j => lap (k + 1) u v E i j) = fun i j => lap k u v E i j := by
  funext i j
  rw [lap_succ]
  rcases h with h | h
  · rw [h]; simp
  · have : inc u v k i = 0 := by unfold inc; rw [h]; omega
    rw [this]; simp
/-- One number more or less. -/
def ud (f : Nat → Nat → Int) (a b : Nat) (z : Int) : Nat → Nat → Int := fun p q => if p = a ∧ q = b then z else f p q
theorem ud_at (f : Nat → Nat → Int) (a b : Nat) (z : Int) : ud f a b z a b = z := by unfold ud; rw [if_pos ⟨rfl, rfl⟩]
theorem ud_far (f : Nat → Nat → Int) (a b : Nat) (z : Int) : ∀ p q, ¬ (p = a ∧ q = b) → ud f a b z p q = f p q := fun p q h => by unfold ud; rw [if_neg h]
theorem lap_four {u v : Nat → Nat} {E : Nat → Bool} {k X Y : Nat} (hE : E k = true) (hX : u k = X) (hY : v k = Y) (hne : X ≠ Y) :
    ud (ud (ud (ud (fun i j => lap k u v E i j) X X (lap k u v E X X + 1)) Y Y (lap k u v E Y Y + 1)) X Y (lap k u v E X Y - 1)) Y X (lap k u v E Y X - 1) = fun i j => lap (k + 1) u v E i j := by
  funext p q
  rw [lap_succ, if_pos hE]
  unfold ud inc
  rw [hX, hY]
  dsimp only
  by_cases h1 : p = X
  · subst h1
    by_cases h2 : q = p
    · subst h2
      rw [if_neg (fun e => hne e.1), if_neg (fun e => hne e.2), if_neg (fun e => hne e.1), if_pos ⟨rfl, rfl⟩, if_pos rfl, if_neg (fun e => hne e.symm)]; omega
    · by_cases h3 : q = Y
      · subst h3
        rw [if_neg (fun e => hne e.1), if_pos ⟨rfl, rfl⟩, if_pos rfl, if_neg (fun e => hne e.symm), if_neg hne, if_pos rfl]; omega
      · rw [if_neg (fun e => hne e.1), if_neg (fun e => h3 e.2), if_neg (fun e => hne e.1), if_neg (fun e => h2 e.2), if_pos rfl, if_neg (fun e => hne e.symm), if_neg (fun e => h2 e.symm), if_neg (fun e => h3 e.symm)]; omega
  · by_cases h1' : p = Y
    · subst h1'
      by_cases h2 : q = X
      · subst h2
        rw [if_pos ⟨rfl, rfl⟩, if_neg (fun e => h1 e.symm), if_pos rfl, if_pos rfl, if_neg h1]; omega
      · by_cases h3 : q = p
        · subst h3
          rw [if_neg (fun e => h2 e.2), if_neg (fun e => h1 e.1), if_pos ⟨rfl, rfl⟩, if_neg (fun e => h1 e.symm), if_pos rfl]; omega
        · rw [if_neg (fun e => h2 e.2), if_neg (fun e => h1 e.1), if_neg (fun e => h3 e.2), if_neg (fun e => h1 e.1), if_neg (fun e => h1 e.symm), if_pos rfl, if_neg (fun e => h2 e.symm), if_neg (fun e => h3 e.symm)]; omega
    · rw [if_neg (fun e => h1' e.1), if_neg (fun e => h1 e.1), if_neg (fun e => h1' e.1), if_neg (fun e => h1 e.1), if_neg (fun e => h1 e.symm), if_neg (fun e => h1' e.symm)]; omega

/-- The matrix, the grid's box and the places. -/
def TS (W : World) (x y : Int) (b Q N g n c : Nat) (D : List Int) (f : Nat → Nat → Int) (X : World) : Prop :=
  ML W b (mtl n f) (.slice (some ⟨g, 0, none⟩) n c) X ∧ GS W x y Q N D X ∧ Q < b
theorem TS.call {W X X' : World} {x y : Int} {b Q N g n c : Nat} {D : List Int} {f : Nat → Nat → Int} (h : TS W x y b Q N g n c D f X) (hb : Below X.heap.size X X') : TS W x y b Q N g n c D f X' := ⟨h.1.call hb, h.2.1.call hb, h.2.2⟩
theorem TS.dr {W X : World} {x y : Int} {b Q N g n c : Nat} {D : List Int} {f : Nat → Nat → Int} (h : TS W x y b Q N g n c D f X) : TS W x y b Q N g n c D f X.drew := h.call ⟨rfl, rfl, rfl, Nat.le_refl _, fun _ _ => rfl⟩
/-- A row of the matrix. -/
theorem TS.row {W X : World} {x y : Int} {b Q N g n c : Nat} {D : List Int} {f : Nat → Nat → Int} (h : TS W x y b Q N g n c D f X) {i : Nat} (hi : i < n) :
    ∃ gi ci, X.cell? ⟨g, i, none⟩ = some (.slice (some ⟨gi, 0, none⟩) n ci) ∧ b ≤ gi ∧ gi < X.heap.size ∧ n ≤ ci ∧ ci ≤ maxLen ∧ ∀ j, j < n → X.cell? ⟨gi, j, none⟩ = some (.int .i64 (f i j)) ∧ X.frozen? ⟨gi, j, none⟩ = false := by
  have hl := mtl_at f hi
  obtain ⟨hn, g', eg, hb, hgt, hgs, Ai, ci, e1, e2, e3⟩ := h.1.2.2.2.row hl
  cases eg
  rw [mtr_len] at e1 e2 e3
  obtain ⟨gi, ci', e4, e5, e6⟩ := own_some e2 (by omega)
  injection e4 with e7 _ e8
  subst e7 e8
  have := own_cap e2
  exact ⟨gi, ci, e1, e5, e6, this.1, this.2, fun j hj => ⟨own_cellI e2 (mtr_at (f i) hj), e2.frozenAt j⟩⟩
theorem TS.put {W X : World} {x y : Int} {b Q N g n c i j gi ci : Nat} {D : List Int} {f f' : Nat → Nat → Int} {z : Int} (h : TS W x y b Q N g n c D f X) (hi : i < n) (hj : j < n) (hgi : b ≤ gi)
    (e : X.cell? ⟨g, i, none⟩ = some (.slice (some ⟨gi, 0, none⟩) n ci)) (h1 : f' i j = z) (h2 : ∀ p q, ¬ (p = i ∧ q = j) → f' p q = f p q) : TS W x y b Q N g n c D f' (X.setCell ⟨gi, j, none⟩ (.int .i64 z)) :=
  ⟨mt_put h.1 hi hj e h1 h2, h.2.1.low h.2.2 ((Below.refl b X).setCell hgi _) h.1.2.2.1, h.2.2⟩
theorem rows_snoc {X : World} {B : Nat} {ds : List Value} {ls : List (List Int)} {l : List Int} {Ai : Option Addr} {ci : Nat} (h : RowsOf X B ds ls) (hl : ds.length = ls.length) (hi : IntsIn X B Ai l) (h1 : l.length ≤ ci) (h2 : ci ≤ maxLen) : RowsOf X B (ds ++ [.slice Ai l.length ci]) (ls ++ [l]) := fun r m hm => by
  by_cases hr : r < ls.length
  · rw [List.getElem?_append_left hr] at hm
    rw [List.getElem?_append_left (by omega)]
    exact h r m hm
  · have hlt := (List.getElem?_eq_some_iff.1 hm).1
    simp at hlt
    obtain rfl : r = ls.length := by omega
    rw [List.getElem?_append_right (Nat.le_refl _), Nat.sub_self] at hm
    obtain rfl : l = m := by simpa using hm
    exact ⟨Ai, ci, by rw [List.getElem?_append_right (by omega), hl, Nat.sub_self]; rfl, hi, h1, h2⟩
theorem gs_new {W X : World} {x y : Int} {N : Nat} (hb : Below W.heap.size W X) (hx : Box W.heap.size x y X) (hN : N ≤ maxLen) : GS W x y X.heap.size N (mtr N fun _ => 0) (X.alloc (.cells (madeCells (Value.int .i64 0).cells N) 3)) := by
  have hrow := made_row (X := X) hN
  rw [mtr_len] at hrow
  exact ⟨hb.alloc hb.size _, hx.call (below_box _ _), own_base hrow hx.2⟩
theorem plc_bd (L : Nat → Nat) (k : Nat) : plc L k ≤ k := by
  have h1 := (fst_spec L k).1
  have h2 : ∀ (p : Nat → Bool) n, cnt p n ≤ n := fun p n => cnt_most p n
  have := h2 (frB L) (fst L k)
  unfold plc; omega
end Go.Proofs.Ytnfnandpcjgmmaa.cntG

/- The contract of the model's counting of trees between parts. -/
namespace Go.Proofs.Ytnfnandpcjgmmaa.cntT
open Go.ChangeShapes Go.WideShapes Go.ChangeAt Go.RowKit
open draw gridP gridC gridE bitP mazeP mazeQ mazeC mazeM mazeR mazeS intsP reachD intA intK listK rowsP detP trsP barP barQ trcP matP matM matQ matR matX reachM forest cntP cntQ cntM cntF cntG
open walP (lbN mgN frB fr_iff nD)
open walR (lbl lbl_len lbl_at)
set_option linter.unusedVariables false

theorem bt_btB {o k : Nat} : btB (o : Int) (k : Int) = decide (bt o k = 1) := by
  unfold btB
  rw [bitZ_bt (by omega) (by omega), Int.toNat_natCast, Int.toNat_natCast, decide_eq_decide]
  omega

set_option maxRecDepth 100000 in
set_option maxHeartbeats 8000000 in
theorem l12trees_any (x y : Int) (used : Nat) (L : Nat → Nat) (A : Option Addr) (c : Nat) (W : World) (hk : OkZ x y) (hu : used < 2 ^ gN x y) (hi : IntsIn W W.heap.size A (lbl L (cN x y))) :
    Calls Try.prog 56 #[.agg #[.int .i64 x, .int .i64 y], .int .i64 used, .slice A (cN x y) c] W
      (Nm (dm (lap (gN x y) (fun g => plc L (aN x y g)) (fun g => plc L (bN x y g)) (fun g => decide (bt used g = 0))) ((List.range (nD L (cN x y) - 1)).map (· + 1))) W) := by
  obtain ⟨j0, hj0, hy0, hy1, hy2⟩ := info_parts info_row
  obtain ⟨i0, hi0, hz0, hz1, hz2⟩ := info_parts info_int
  have hc16 := c16 hk
  obtain ⟨N, hN⟩ : ∃ N, cN x y = N := ⟨_, rfl⟩
  have hgs0 := Lib.hid (gs_make (W := W) (x := x) (y := y) (N := N) 25 (by unfold maxLen; omega))
  have HK := @Lib.hid _ (fun w' z h b => @nm_mk z (dm (lap (gN x y) (fun g => plc L (aN x y g)) (fun g => plc L (bN x y g)) (fun g => decide (bt used g = 0))) ((List.range (nD L (cN x y) - 1)).map (· + 1))) W w' h b)
  obtain ⟨r, hr⟩ : ∃ r, dm (lap (gN x y) (fun g => plc L (aN x y g)) (fun g => plc L (bN x y g)) (fun g => decide (bt used g = 0))) ((List.range (nD L (cN x y) - 1)).map (· + 1)) = r := ⟨_, rfl⟩
  rw [hr] at HK ⊢
  have Hr := Lib.hid hr
  clear hr
  have hmk := run_make (P := Try.prog) (W.alloc (.cells #[.int .i64 x, .int .i64 y] 25)) 69 3 i0 (.int .i64 0) Try.underlying69 hi0 hz0 .i64 .i64 (N : Int) (N : Int) (by omega) (by omega) (by rw [hz2]; omega) (by omega)
  rw [hz1] at hmk
  simp only [Int.toNat_natCast, Nat.mul_one] at hmk
  rw [hN] at hc16 hi ⊢
  have HNE := Lib.hid hN
  have HIn : Hid (∀ X, Below W.heap.size W X → ∀ j, j < N → ∃ ad, A = some ad ∧ X.cell? (ad.add j) = some (.int .i64 (L j))) := Lib.hid fun X hb j hj => by
    obtain ⟨ad, e, hab, ez⟩ := ints_cell hi (lbl_at L hj)
    exact ⟨ad, e, (hb.cell (by rw [block_of_add]; exact hab)).trans ez⟩
  have hcl : ∀ m, cnt (frB L) m ≤ m := fun m => cnt_most _ m
  have HCl := Lib.hid hcl
  clear hN hi hcl
  go_enter Try.func56, Try.ntmps56
  go_wp2_with fail
  clear hmk
  go_loopw [8, 9] (fun u8 u9 wr => ∃ k : Nat, k ≤ N ∧ u9 = .int .i64 k ∧ u8 = .int .i64 (cnt (frB L) k : Nat) ∧ GS W x y (W.heap.size + 1) N (mtr N (pf L k 0)) wr) (fun _ u9 _ => N - (intOf u9).toNat)
  case atStart => exact ⟨0, Nat.zero_le _, rfl, rfl, by rw [pf_start]; exact hgs0.out⟩
  case round =>
    clear hgs0
    obtain ⟨k, hkN, rfl, rfl, hgs0⟩ := hrel
    have hgs := Lib.hid hgs0
    clear hgs0
    have hk0 : (0 : Int) ≤ (k : Int) := Int.natCast_nonneg _
    have hcm := HCl.out k
    by_cases hk1 : k < N
    · have hd : decide ((k : Int) < (N : Int)) = true := decide_eq_true (by omega)
      have hk2 : (k : Int) < (N : Int) := by omega
      obtain ⟨ck, fk⟩ := hgs.out.cell hk1
      obtain ⟨p1, p2⟩ := pf_put L k 0 (-1)
      have HP := Lib.hid (hgs.out.put k (-1))
      rw [mtr_set hk1 p1 p2] at HP
      have HNx : Hid (cnt (frB L) (k + 1) = cnt (frB L) k + if frB L k = true then 1 else 0) := Lib.hid rfl
      generalize hdn : cnt (frB L) k = d at *
      clear p1 p2
      go_wp2_with fail
      go_loopw [10] (fun u10 wq => ∃ i : Nat, i ≤ k ∧ u10 = .int .i64 i ∧ GS W x y (W.heap.size + 1) N (mtr N (pf L k (vi L k i))) wq) (fun u10 _ => k - (intOf u10).toNat)
      case atStart => exact ⟨0, Nat.zero_le _, rfl, by rw [vi_zero]; exact HP.out⟩
      case round =>
        clear HP ck fk hgs
        obtain ⟨i, hik, rfl, hgs0⟩ := hrel
        have hgs := Lib.hid hgs0
        clear hgs0
        have hi0' : (0 : Int) ≤ (i : Int) := Int.natCast_nonneg _
        by_cases hi1 : i < k
        · have hd2 : decide ((i : Int) < (k : Int)) = true := decide_eq_true (by omega)
          have hi2 : (i : Int) < (N : Int) := by omega
          obtain ⟨ad, rfl, ea⟩ := HIn.out wr hgs.out.1 i (by omega)
          obtain ⟨ad', e', eb⟩ := HIn.out wr hgs.out.1 k hk1
          cases e'
          have hvn := vi_next L k i
          obtain ⟨ci, -⟩ := hgs.out.cell (show i < N by omega)
          obtain ⟨ck, fk⟩ := hgs.out.cell hk1
          rw [pf_at L _ hi1] at ci
          by_cases he : L i = L k
          · have hq : (((L i : Nat) : Int) == ((L k : Nat) : Int)) = true := by rw [he]; simp
            rw [if_pos he] at hvn
            have hpe : plc L i = plc L k := plc_iff.2 he
            rw [hpe] at ci
            obtain ⟨p1, p2⟩ := pf_put L k (vi L k i) (plc L k)
            have HN : Hid (∀ n, GS W x y (W.heap.size + 1) N (mtr N (pf L k (vi L k (i + 1)))) ((wr.drewN n).setCell ⟨W.heap.size + 1, k, none⟩ (.int .i64 (plc L k)))) := Lib.hid fun n => by
              have h := (hgs.out.drs n).put k (plc L k)
              rw [mtr_set hk1 p1 p2] at h
              rw [hvn]; exact h
            clear p1 p2 hvn hpe he
            go_wp2_with fail
            go_quiet (fail)
            go_wp2_with fail
            go_roundw
            case rel => exact ⟨i + 1, by omega, by go_num, HN.out _⟩
            case measure => simp [intOf]; omega
          · have hq : (((L i : Nat) : Int) == ((L k : Nat) : Int)) = false := by rw [beq_eq_false_iff_ne]; omega
            rw [if_neg he] at hvn
            have HN := Lib.hid (fun n => hgs.out.drs n)
            rw [← hvn] at HN
            clear hvn he
            go_wp2_with fail
            go_quiet (fail)
            go_wp2_with fail
            go_roundw
            case rel => exact ⟨i + 1, by omega, by go_num, HN.out _⟩
            case measure => simp [intOf]; omega
        · obtain rfl : i = k := by omega
          have hd2 : decide ((i : Int) < (i : Int)) = false := by simp
          obtain ⟨v1, v2⟩ := vi_end L i
          obtain ⟨ck, fk⟩ := hgs.out.cell hk1
          have hpv : pf L i (vi L i i) i = vi L i i := (pf_put L i 0 _).1
          rw [hpv] at ck
          cases hf : frB L i with
          | true =>
            obtain ⟨w1, w2⟩ := v1 hf
            rw [w1] at ck
            rw [hf, if_pos rfl] at HNx
            rw [hdn] at w2
            obtain ⟨p1, p2⟩ := pf_put L i (vi L i i) (d : Int)
            have HN := Lib.hid (hgs.out.put i (d : Int))
            rw [mtr_set hk1 p1 p2, ← w2, pf_end] at HN
            rw [w2] at HN
            have hwd : IntKind.i64.wrap ((d : Int) + 1) = (d : Int) + 1 := IntWalk.i64_in _ (by omega)
            clear v1 v2 hpv w1 w2 p1 p2 hf hdn
            go_wp2_with fail
            go_roundw
            case rel => exact ⟨i + 1, by omega, by go_num, by rw [HNx.out]; try go_num, HN.out⟩
            case measure => simp [intOf]; omega
          | false =>
            have w1 := v2 hf
            have hng : decide ((plc L i : Int) < 0) = false := decide_eq_false (by omega)
            have HN := Lib.hid hgs.out
            rw [w1, pf_end] at HN
            rw [w1] at ck
            rw [hf, if_neg (by decide), Nat.add_zero] at HNx
            clear v1 v2 hpv w1 hf hdn
            go_wp2_with fail
            go_roundw
            case rel => exact ⟨i + 1, by omega, by go_num, by rw [HNx.out, Nat.add_zero], HN.out⟩
            case measure => simp [intOf]; omega
    · obtain rfl : k = N := by omega
      have hd : decide ((k : Int) < (k : Int)) = false := by simp
      have hgs1 := hgs.out
      rw [pf_all] at hgs1
      have hgs := Lib.hid hgs1
      clear hgs1
      have hnd : cnt (frB L) k = nD L k := rfl
      have hn1 : 1 ≤ nD L k := walP.nd_pos L hc16.1
      have HPl : Hid (∀ a, a < k → plc L a < nD L k) := Lib.hid fun a h => plc_lt h
      rw [hnd] at hcm ⊢
      rw [HNE.out] at Hr
      generalize nD L k = n at *
      clear hnd HCl HIn
      have hlt0 := hgs.out.lt
      have hol0 := Lib.hid (ml_new (W := W) (X := wr) hgs.out.1 hgs.out.1.size)
      have hgsb := Lib.hid (hgs.out.call (below_box wr (.cells #[] 69)))
      clear hgs
      go_wp2_with fail
      generalize hb : wr.heap.size = b at *
      clear hb
      go_loopw [11, 12] (fun u11 u12 wq => ∃ i : Nat, i ≤ n ∧ u12 = .int .i64 i ∧ ML W b (List.replicate i (mtr n fun _ => 0)) u11 wq ∧ GS W x y (W.heap.size + 1) k (mtr k fun c => (plc L c : Int)) wq) (fun _ u12 _ => n - (intOf u12).toNat)
      case atStart => exact ⟨0, Nat.zero_le _, rfl, hol0.out, hgsb.out⟩
      case round =>
        clear hol0 hgsb
        obtain ⟨i, hin, rfl, hol1, hgs1⟩ := hrel
        have hol := Lib.hid hol1
        have hgs := Lib.hid hgs1
        clear hol1 hgs1
        obtain ⟨A11, c11, rfl⟩ := hol.out.form
        rw [List.length_replicate] at hol ⊢
        have hi0' : (0 : Int) ≤ (i : Int) := Int.natCast_nonneg _
        have hb0 := hol.out.2.1
        have hb1 := hol.out.2.2.1
        by_cases hi1 : i < n
        · have hd2 : decide ((i : Int) < (n : Int)) = true := decide_eq_true (by omega)
          have hmk := run_make (P := Try.prog) wr 69 3 i0 (.int .i64 0) Try.underlying69 hi0 hz0 .i64 .i64 (n : Int) (n : Int) (by omega) (by omega) (by rw [hz2]; omega) (by omega)
          rw [hz1] at hmk
          simp only [Int.toNat_natCast, Nat.mul_one] at hmk
          have HRA := Lib.hid (row_app (X := wr) hol.out (below_box wr (.cells (madeCells (Value.int .i64 0).cells n) 3)) (made_row (by unfold maxLen; omega)))
          have hgs2 := Lib.hid (hgs.out.call (below_box wr (.cells (madeCells (Value.int .i64 0).cells n) 3)))
          have HRp : Hid (List.replicate (i + 1) (mtr n fun _ => (0 : Int)) = List.replicate i (mtr n fun _ => 0) ++ [mtr n fun _ => 0]) := Lib.hid (by rw [List.replicate_succ'])
          go_wp2_with (at_builtin; obtain ⟨cs, hcs, hcsN⟩ := HRA.out; rw [List.length_replicate] at hcs hcsN; go_loud (refine wpList_append_lies _ rfl (.tmp 68) (.tmp 71) 67 rfl b 69 j0 _ 1 24 Try.underlying67 hj0 hy0 hy1 hy2 rfl (by decide) _ i cs rfl (hcs.alloc _) ⟨wr.heap.size + 1, 0, none⟩ 1 1 [.slice (some ⟨wr.heap.size, 0, none⟩) n n] rfl rfl (news_eqI rfl (two_new wr _ _)) (fun u hu => by rw [List.mem_singleton.1 hu]; rfl) (by omega) (by unfold maxLen; omega) (by omega) (by simp; omega) _ rfl ?_); intro gg cap w5 o5 g5 hat hlt2; clear hat hlt2; have HM5 := Lib.hid (hcsN _ w5 gg cap o5 g5); clear o5 g5 hcsN hcs)
          go_roundw
          case rel => exact ⟨i + 1, by omega, by go_num, by rw [HRp.out]; exact HM5.out.1, hgs2.out.low (by omega) HM5.out.2 (by simp; omega)⟩
          case measure => simp [intOf]; omega
        · obtain rfl : i = n := by omega
          have hd2 : decide ((i : Int) < (i : Int)) = false := by simp
          have hol1 := hol.out
          rw [mtl_rep] at hol1
          obtain ⟨g, rfl⟩ : ∃ g, A11 = some ⟨g, 0, none⟩ := by
            obtain ⟨-, g, e, -⟩ := hol1.2.2.2.row (mtl_at (fun _ _ => (0 : Int)) (show 0 < i by omega))
            exact ⟨g, e⟩
          have hts0 := Lib.hid (show TS W x y b (W.heap.size + 1) k g i c11 (mtr k fun c => (plc L c : Int)) (fun p q => lap 0 (fun g => plc L (aN x y g)) (fun g => plc L (bN x y g)) (fun g => decide (bt used g = 0)) p q) wr from ⟨hol1, hgs.out, by omega⟩)
          have HG : Hid (∀ X, Calls Try.prog 38 #[.agg #[.int .i64 x, .int .i64 y]] X (Nm (gN x y : Int) X)) := fun X => by
            have hq := gps_bd hk.1 hk.2.1 hk.2.2.1 hk.2.2.2
            have hG : gpsZ x y = (gN x y : Int) := by unfold gN; omega
            rw [← hG]; exact gridS.countGaps_yes x y X hk.1 hk.2.1 hk.2.2.1 hk.2.2.2
          have hg24 : gN x y ≤ 24 := by have := gps_bd hk.1 hk.2.1 hk.2.2.1 hk.2.2.2; unfold gN; omega
          have HEn := Lib.hid (fun (t : Nat) X => gridS.endsOf_any x y t X)
          have HEl := Lib.hid (fun (t : Nat) (h : t < gN x y) => ends_lt hk h)
          have hu24 : used < 16777216 := Nat.lt_of_lt_of_le hu (Nat.le_trans (Nat.pow_le_pow_right (by decide) hg24) (by decide))
          have HT := Lib.hid (fun (t : Nat) X (h : t < 24) => bit_b used t X (by omega) (by omega) (by omega) (by omega))
          rw [HNE.out] at HEl
          generalize hu' : (fun g => plc L (aN x y g)) = u at *
          generalize hv' : (fun g => plc L (bN x y g)) = v at *
          generalize hE' : (fun g => decide (bt used g = 0)) = E at *
          have HU : Hid (∀ t, plc L (aN x y t) = u t ∧ plc L (bN x y t) = v t ∧ (decide (bt used t = 0)) = E t) := Lib.hid fun t => ⟨by rw [← hu'], by rw [← hv'], by rw [← hE']⟩
          generalize gN x y = G at *
          clear hol hgs hol1 hu' hv' hE'
          go_wp2_with fail
          go_loopw [13] (fun u13 wq => ∃ t : Nat, t ≤ G ∧ u13 = .int .i64 t ∧ TS W x y b (W.heap.size + 1) k g i c11 (mtr k fun c => (plc L c : Int)) (fun p q => lap t u v E p q) wq) (fun u13 _ => G - (intOf u13).toNat)
          case atStart => exact ⟨0, Nat.zero_le _, rfl, hts0.out⟩
          case round =>
            clear hts0
            obtain ⟨t, htG, rfl, hts0⟩ := hrel
            have hts := Lib.hid hts0
            clear hts0
            obtain ⟨x0, x1⟩ := hts.out.2.1.2.1.1
            have ht0 : (0 : Int) ≤ (t : Int) := Int.natCast_nonneg _
            go_wp2_with fail
            refine (HG _).mono ?_
            rintro e w1 ⟨rfl, hb'⟩
            have hts1 := Lib.hid (hts.out.call hb')
            clear hb' hts x0 x1
            obtain ⟨x0, x1⟩ := hts1.out.2.1.2.1.1
            by_cases ht1 : t < G
            · have hd3 : decide ((t : Int) < (G : Int)) = true := decide_eq_true (by omega)
              obtain ⟨el1, el2, el3, el4⟩ := HEl.out t ht1
              have HEn1 := Lib.hid (HEn.out t)
              rw [el3, el4] at HEn1
              have HT1 := Lib.hid (fun X => HT.out t X (by omega))
              obtain ⟨hU1, hU2, hU3⟩ := HU.out t
              have hX1 := HPl.out (aN x y t) (by omega)
              have hX2 := HPl.out (bN x y t) el2
              rw [bt_btB] at HT1
              generalize aN x y t = a at *
              generalize bN x y t = bb at *
              go_wp2_with fail
              refine (HEn1.out _).mono ?_
              rintro e w2 ⟨rfl, hb'⟩
              have hts2 := Lib.hid (hts1.out.call hb')
              clear hb' hts1 x0 x1 el3 el4 HEn1
              obtain ⟨hx1, -⟩ := hts2.out.2.1.cell (show a < k by omega)
              obtain ⟨hx2, -⟩ := hts2.out.2.1.cell el2
              rw [hU1] at hx1 hX1
              rw [hU2] at hx2 hX2
              have hsk := lap_skip (u := u) (v := v) (E := E) (k := t)
              have ha0 : (0 : Int) ≤ (a : Int) := Int.natCast_nonneg _
              have ha1 : (a : Int) < (k : Int) := by omega
              have hb0' : (0 : Int) ≤ (bb : Int) := Int.natCast_nonneg _
              have hb1' : (bb : Int) < (k : Int) := by omega
              by_cases hbt : bt used t = 1
              · rw [decide_eq_true hbt] at HT1
                have hEf : E t = false := by rw [← hU3, decide_eq_false (by omega)]
                have HN := Lib.hid hts2.out.dr
                rw [← hsk (.inl hEf)] at HN
                clear hU1 hU2 hU3 hsk hEf hts2
                go_wp2_with fail
                try simp only [List.cons_append, List.nil_append, List.append_eq]
                refine wp_region_held_drew (S := (fun w' => w'.cell? ⟨W.heap.size + 1, a, none⟩ = some (.int .i64 (u t : Int)))) (by kernel_rfl) ?_ (fun hHeld0 => ?_)
                · (try dsimp only); exact hx1
                refine wpAnyH_take (i := 0) (oi := { dst := some 85, op := Go.Op.move (Go.Operand.tmp 1), type := 3, pos := "l12_count.go:69", after := #[], guard := none }) (v := ?_) rfl (by kernel_rfl) (by kernel_rfl) (by kernel_rfl) (fun _ _ _ h => h) (Or.inl ⟨by rfl, ?_⟩) (by assumption) ?_
                rotate_left
                · (intro w hSw; (try dsimp only at hSw); go_simp; try with_reducible rfl)
                try simp only [Act.put, List.setIfInBounds_toArray, List.set_cons_zero, List.set_cons_succ]
                refine wpAnyH_take (i := 1) (oi := { dst := some 86, op := Go.Op.move (Go.Operand.tmp 13), type := 3, pos := "l12_count.go:69", after := #[], guard := none }) (v := ?_) rfl (by kernel_rfl) (by kernel_rfl) (by kernel_rfl) (fun _ _ _ h => h) (Or.inl ⟨by rfl, ?_⟩) (by assumption) ?_
                rotate_left
                · (intro w hSw; (try dsimp only at hSw); go_simp; try with_reducible rfl)
                try simp only [Act.put, List.setIfInBounds_toArray, List.set_cons_zero, List.set_cons_succ]
                refine wpAnyH_ready (rs := [2]) (by kernel_rfl) (by simp) ?_
                refine AllReadyH.cons (o := { dst := some 87, op := Go.Op.call { callee := Go.Callee.value (Go.Operand.func 39), args := #[Go.Operand.tmp 85, Go.Operand.tmp 86], argTypes := #[3, 3] }, type := 4, pos := "l12_count.go:69", after := #[{ on := 0, ground := Go.Ground.data }, { on := 1, ground := Go.Ground.data }], guard := none }) rfl (fun K2 hK2 => ?_) AllReadyH.nil
                go_simp
                (refine (HT1.out _).mono ?_; rintro e w' ⟨rfl, rfl⟩)
                go_wp2_with fail
                refine hK2.out _ _ ?_ (fun hHeld1 => ?_)
                · (try dsimp only); exact hx1
                clear hK2 K2 hHeld0
                try simp only [Act.put, List.setIfInBounds_toArray, List.set_cons_zero, List.set_cons_succ]
                refine wpAnyH_take (i := 3) (oi := { dst := some 88, op := Go.Op.move (Go.Operand.tmp 87), type := 4, pos := "l12_count.go:69", after := #[{ on := 2, ground := Go.Ground.data }, { on := 2, ground := Go.Ground.chain }], guard := none }) (v := ?_) rfl (by kernel_rfl) (by kernel_rfl) (by kernel_rfl) (fun _ _ _ h => h) (Or.inl ⟨by rfl, ?_⟩) (by assumption) ?_
                rotate_left
                · (intro w hSw; (try dsimp only at hSw); go_simp; try with_reducible rfl)
                try simp only [Act.put, List.setIfInBounds_toArray, List.set_cons_zero, List.set_cons_succ]
                refine wpAnyH_take (i := 4) (oi := { dst := some 89, op := Go.Op.move (Go.Operand.tmp 7), type := 69, pos := "l12_count.go:69", after := #[{ on := 3, ground := Go.Ground.guard }], guard := some (3, false) }) (v := undef) rfl (by kernel_rfl) (by kernel_rfl) (by kernel_rfl) (fun _ _ _ h => h) (Or.inr ⟨by rfl, rfl⟩) (by assumption) ?_
                try simp only [Act.put, List.setIfInBounds_toArray, List.set_cons_zero, List.set_cons_succ]
                refine wpAnyH_take (i := 5) (oi := { dst := some 90, op := Go.Op.move (Go.Operand.tmp 14), type := 3, pos := "l12_count.go:69", after := #[{ on := 3, ground := Go.Ground.guard }], guard := some (3, false) }) (v := undef) rfl (by kernel_rfl) (by kernel_rfl) (by kernel_rfl) (fun _ _ _ h => h) (Or.inr ⟨by rfl, rfl⟩) (by assumption) ?_
                try simp only [Act.put, List.setIfInBounds_toArray, List.set_cons_zero, List.set_cons_succ]
                refine wpAnyH_take (i := 6) (oi := { dst := some 91, op := Go.Op.indexAddr 69 (Go.Operand.tmp 89) (Go.Operand.tmp 90), type := 0, pos := "l12_count.go:69", after := #[{ on := 4, ground := Go.Ground.data }, { on := 5, ground := Go.Ground.data }, { on := 3, ground := Go.Ground.guard }], guard := some (3, false) }) (v := undef) rfl (by kernel_rfl) (by kernel_rfl) (by kernel_rfl) (fun _ _ _ h => h) (Or.inr ⟨by rfl, rfl⟩) (by assumption) ?_
                try simp only [Act.put, List.setIfInBounds_toArray, List.set_cons_zero, List.set_cons_succ]
                refine wpAnyH_take (i := 7) (oi := { dst := some 92, op := Go.Op.load 3 (Go.Operand.tmp 91), type := 3, pos := "l12_count.go:69", after := #[{ on := 6, ground := Go.Ground.data }, { on := 3, ground := Go.Ground.guard }], guard := some (3, false) }) (v := undef) rfl (by kernel_rfl) (by kernel_rfl) (by kernel_rfl) (fun _ _ _ h => h) (Or.inr ⟨by rfl, rfl⟩) (by assumption) ?_
                try simp only [Act.put, List.setIfInBounds_toArray, List.set_cons_zero, List.set_cons_succ]
                refine wpAnyH_take (i := 8) (oi := { dst := some 93, op := Go.Op.move (Go.Operand.tmp 7), type := 69, pos := "l12_count.go:69", after := #[{ on := 3, ground := Go.Ground.guard }], guard := some (3, false) }) (v := undef) rfl (by kernel_rfl) (by kernel_rfl) (by kernel_rfl) (fun _ _ _ h => h) (Or.inr ⟨by rfl, rfl⟩) (by assumption) ?_
                try simp only [Act.put, List.setIfInBounds_toArray, List.set_cons_zero, List.set_cons_succ]
                refine wpAnyH_take (i := 9) (oi := { dst := some 94, op := Go.Op.move (Go.Operand.tmp 15), type := 3, pos := "l12_count.go:69", after := #[{ on := 3, ground := Go.Ground.guard }], guard := some (3, false) }) (v := undef) rfl (by kernel_rfl) (by kernel_rfl) (by kernel_rfl) (fun _ _ _ h => h) (Or.inr ⟨by rfl, rfl⟩) (by assumption) ?_
                try simp only [Act.put, List.setIfInBounds_toArray, List.set_cons_zero, List.set_cons_succ]
                refine wpAnyH_take (i := 10) (oi := { dst := some 95, op := Go.Op.indexAddr 69 (Go.Operand.tmp 93) (Go.Operand.tmp 94), type := 0, pos := "l12_count.go:69", after := #[{ on := 8, ground := Go.Ground.data }, { on := 9, ground := Go.Ground.data }, { on := 3, ground := Go.Ground.guard }], guard := some (3, false) }) (v := undef) rfl (by kernel_rfl) (by kernel_rfl) (by kernel_rfl) (fun _ _ _ h => h) (Or.inr ⟨by rfl, rfl⟩) (by assumption) ?_
                try simp only [Act.put, List.setIfInBounds_toArray, List.set_cons_zero, List.set_cons_succ]
                refine wpAnyH_take (i := 11) (oi := { dst := some 96, op := Go.Op.load 3 (Go.Operand.tmp 95), type := 3, pos := "l12_count.go:69", after := #[{ on := 10, ground := Go.Ground.data }, { on := 3, ground := Go.Ground.guard }], guard := some (3, false) }) (v := undef) rfl (by kernel_rfl) (by kernel_rfl) (by kernel_rfl) (fun _ _ _ h => h) (Or.inr ⟨by rfl, rfl⟩) (by assumption) ?_
                try simp only [Act.put, List.setIfInBounds_toArray, List.set_cons_zero, List.set_cons_succ]
                refine wpAnyH_take (i := 12) (oi := { dst := some 97, op := Go.Op.binOp Go.BinOp.eql 3 (Go.Operand.tmp 92) (Go.Operand.tmp 96) 3, type := 4, pos := "l12_count.go:69", after := #[{ on := 7, ground := Go.Ground.data }, { on := 11, ground := Go.Ground.data }, { on := 3, ground := Go.Ground.guard }], guard := some (3, false) }) (v := undef) rfl (by kernel_rfl) (by kernel_rfl) (by kernel_rfl) (fun _ _ _ h => h) (Or.inr ⟨by rfl, rfl⟩) (by assumption) ?_
                try simp only [Act.put, List.setIfInBounds_toArray, List.set_cons_zero, List.set_cons_succ]
                refine wpAnyH_take (i := 13) (oi := { dst := some 98, op := Go.Op.pick (Go.Operand.tmp 88) (Go.Operand.const (Go.Value.bool true)) (Go.Operand.tmp 97), type := 4, pos := "l12_count.go:69", after := #[{ on := 3, ground := Go.Ground.data }, { on := 12, ground := Go.Ground.data }], guard := none }) (v := ?_) rfl (by kernel_rfl) (by kernel_rfl) (by kernel_rfl) (fun _ _ _ h => h) (Or.inl ⟨by rfl, ?_⟩) (by assumption) ?_
                rotate_left
                · (intro w hSw; (try dsimp only at hSw); go_simp; try with_reducible rfl)
                try simp only [Act.put, List.setIfInBounds_toArray, List.set_cons_zero, List.set_cons_succ]
                refine wpAnyH_done (by kernel_rfl) ?_ _
                go_wp2_with fail
                go_roundw
                case rel => exact ⟨t + 1, by omega, by go_num, HN.out⟩
                case measure => simp [intOf]; omega
              · rw [decide_eq_false hbt] at HT1
                have hEt : E t = true := by rw [← hU3, decide_eq_true (by have := bt_le used t; omega)]
                by_cases hxy : u t = v t
                · have HN := Lib.hid hts2.out.dr
                  rw [← hsk (.inr hxy)] at HN
                  have hq : (((u t : Nat) : Int) == ((v t : Nat) : Int)) = true := by rw [hxy]; simp
                  clear hU1 hU2 hU3 hsk hEt
                  go_wp2_with fail
                  try simp only [List.cons_append, List.nil_append, List.append_eq]
                  refine wp_region_held_drew (S := (fun w' => w'.cell? ⟨W.heap.size + 1, a, none⟩ = some (.int .i64 (u t : Int)) ∧ w'.cell? ⟨W.heap.size + 1, bb, none⟩ = some (.int .i64 (v t : Int)))) (by kernel_rfl) ?_ (fun hHeld0 => ?_)
                  · (try dsimp only); go_keep
                  refine wpAnyH_take (i := 0) (oi := { dst := some 85, op := Go.Op.move (Go.Operand.tmp 1), type := 3, pos := "l12_count.go:69", after := #[], guard := none }) (v := ?_) rfl (by kernel_rfl) (by kernel_rfl) (by kernel_rfl) (fun _ _ _ h => h) (Or.inl ⟨by rfl, ?_⟩) (by assumption) ?_
                  rotate_left
                  · (intro w hSw; (try dsimp only at hSw); go_simp; try with_reducible rfl)
                  try simp only [Act.put, List.setIfInBounds_toArray, List.set_cons_zero, List.set_cons_succ]
                  refine wpAnyH_take (i := 1) (oi := { dst := some 86, op := Go.Op.move (Go.Operand.tmp 13), type := 3, pos := "l12_count.go:69", after := #[], guard := none }) (v := ?_) rfl (by kernel_rfl) (by kernel_rfl) (by kernel_rfl) (fun _ _ _ h => h) (Or.inl ⟨by rfl, ?_⟩) (by assumption) ?_
                  rotate_left
                  · (intro w hSw; (try dsimp only at hSw); go_simp; try with_reducible rfl)
                  try simp only [Act.put, List.setIfInBounds_toArray, List.set_cons_zero, List.set_cons_succ]
                  refine wpAnyH_ready (rs := [2]) (by kernel_rfl) (by simp) ?_
                  refine AllReadyH.cons (o := { dst := some 87, op := Go.Op.call { callee := Go.Callee.value (Go.Operand.func 39), args := #[Go.Operand.tmp 85, Go.Operand.tmp 86], argTypes := #[3, 3] }, type := 4, pos := "l12_count.go:69", after := #[{ on := 0, ground := Go.Ground.data }, { on := 1, ground := Go.Ground.data }], guard := none }) rfl (fun K2 hK2 => ?_) AllReadyH.nil
                  go_simp
                  (refine (HT1.out _).mono ?_; rintro e w' ⟨rfl, rfl⟩)
                  go_wp2_with fail
                  refine hK2.out _ _ ?_ (fun hHeld1 => ?_)
                  · (try dsimp only); go_keep
                  clear hK2 K2 hHeld0
                  try simp only [Act.put, List.setIfInBounds_toArray, List.set_cons_zero, List.set_cons_succ]
                  refine wpAnyH_take (i := 3) (oi := { dst := some 88, op := Go.Op.move (Go.Operand.tmp 87), type := 4, pos := "l12_count.go:69", after := #[{ on := 2, ground := Go.Ground.data }, { on := 2, ground := Go.Ground.chain }], guard := none }) (v := ?_) rfl (by kernel_rfl) (by kernel_rfl) (by kernel_rfl) (fun _ _ _ h => h) (Or.inl ⟨by rfl, ?_⟩) (by assumption) ?_
                  rotate_left
                  · (intro w hSw; (try dsimp only at hSw); go_simp; try with_reducible rfl)
                  try simp only [Act.put, List.setIfInBounds_toArray, List.set_cons_zero, List.set_cons_succ]
                  refine wpAnyH_take (i := 4) (oi := { dst := some 89, op := Go.Op.move (Go.Operand.tmp 7), type := 69, pos := "l12_count.go:69", after := #[{ on := 3, ground := Go.Ground.guard }], guard := some (3, false) }) (v := ?_) rfl (by kernel_rfl) (by kernel_rfl) (by kernel_rfl) (fun _ _ _ h => h) (Or.inl ⟨by rfl, ?_⟩) (by assumption) ?_
                  rotate_left
                  · (intro w hSw; (try dsimp only at hSw); go_simp; try with_reducible rfl)
                  try simp only [Act.put, List.setIfInBounds_toArray, List.set_cons_zero, List.set_cons_succ]
                  refine wpAnyH_take (i := 5) (oi := { dst := some 90, op := Go.Op.move (Go.Operand.tmp 14), type := 3, pos := "l12_count.go:69", after := #[{ on := 3, ground := Go.Ground.guard }], guard := some (3, false) }) (v := ?_) rfl (by kernel_rfl) (by kernel_rfl) (by kernel_rfl) (fun _ _ _ h => h) (Or.inl ⟨by rfl, ?_⟩) (by assumption) ?_
                  rotate_left
                  · (intro w hSw; (try dsimp only at hSw); go_simp; try with_reducible rfl)
                  try simp only [Act.put, List.setIfInBounds_toArray, List.set_cons_zero, List.set_cons_succ]
                  refine wpAnyH_take (i := 6) (oi := { dst := some 91, op := Go.Op.indexAddr 69 (Go.Operand.tmp 89) (Go.Operand.tmp 90), type := 0, pos := "l12_count.go:69", after := #[{ on := 4, ground := Go.Ground.data }, { on := 5, ground := Go.Ground.data }, { on := 3, ground := Go.Ground.guard }], guard := some (3, false) }) (v := ?_) rfl (by kernel_rfl) (by kernel_rfl) (by kernel_rfl) (fun _ _ _ h => h) (Or.inl ⟨by rfl, ?_⟩) (by assumption) ?_
                  rotate_left
                  · (intro w hSw; (try dsimp only at hSw); go_simp; try with_reducible rfl)
                  try simp only [Act.put, List.setIfInBounds_toArray, List.set_cons_zero, List.set_cons_succ]
                  refine wpAnyH_take (i := 7) (oi := { dst := some 92, op := Go.Op.load 3 (Go.Operand.tmp 91), type := 3, pos := "l12_count.go:69", after := #[{ on := 6, ground := Go.Ground.data }, { on := 3, ground := Go.Ground.guard }], guard := some (3, false) }) (v := ?_) rfl (by kernel_rfl) (by kernel_rfl) (by kernel_rfl) (fun _ _ _ h => h) (Or.inl ⟨by rfl, ?_⟩) (by assumption) ?_
                  rotate_left
                  · (intro w hSw; (try dsimp only at hSw); go_simp; try with_reducible rfl)
                  try simp only [Act.put, List.setIfInBounds_toArray, List.set_cons_zero, List.set_cons_succ]
                  refine wpAnyH_take (i := 8) (oi := { dst := some 93, op := Go.Op.move (Go.Operand.tmp 7), type := 69, pos := "l12_count.go:69", after := #[{ on := 3, ground := Go.Ground.guard }], guard := some (3, false) }) (v := ?_) rfl (by kernel_rfl) (by kernel_rfl) (by kernel_rfl) (fun _ _ _ h => h) (Or.inl ⟨by rfl, ?_⟩) (by assumption) ?_
                  rotate_left
                  · (intro w hSw; (try dsimp only at hSw); go_simp; try with_reducible rfl)
                  try simp only [Act.put, List.setIfInBounds_toArray, List.set_cons_zero, List.set_cons_succ]
                  refine wpAnyH_take (i := 9) (oi := { dst := some 94, op := Go.Op.move (Go.Operand.tmp 15), type := 3, pos := "l12_count.go:69", after := #[{ on := 3, ground := Go.Ground.guard }], guard := some (3, false) }) (v := ?_) rfl (by kernel_rfl) (by kernel_rfl) (by kernel_rfl) (fun _ _ _ h => h) (Or.inl ⟨by rfl, ?_⟩) (by assumption) ?_
                  rotate_left
                  · (intro w hSw; (try dsimp only at hSw); go_simp; try with_reducible rfl)
                  try simp only [Act.put, List.setIfInBounds_toArray, List.set_cons_zero, List.set_cons_succ]
                  refine wpAnyH_take (i := 10) (oi := { dst := some 95, op := Go.Op.indexAddr 69 (Go.Operand.tmp 93) (Go.Operand.tmp 94), type := 0, pos := "l12_count.go:69", after := #[{ on := 8, ground := Go.Ground.data }, { on := 9, ground := Go.Ground.data }, { on := 3, ground := Go.Ground.guard }], guard := some (3, false) }) (v := ?_) rfl (by kernel_rfl) (by kernel_rfl) (by kernel_rfl) (fun _ _ _ h => h) (Or.inl ⟨by rfl, ?_⟩) (by assumption) ?_
                  rotate_left
                  · (intro w hSw; (try dsimp only at hSw); go_simp; try with_reducible rfl)
                  try simp only [Act.put, List.setIfInBounds_toArray, List.set_cons_zero, List.set_cons_succ]
                  refine wpAnyH_take (i := 11) (oi := { dst := some 96, op := Go.Op.load 3 (Go.Operand.tmp 95), type := 3, pos := "l12_count.go:69", after := #[{ on := 10, ground := Go.Ground.data }, { on := 3, ground := Go.Ground.guard }], guard := some (3, false) }) (v := ?_) rfl (by kernel_rfl) (by kernel_rfl) (by kernel_rfl) (fun _ _ _ h => h) (Or.inl ⟨by rfl, ?_⟩) (by assumption) ?_
                  rotate_left
                  · (intro w hSw; (try dsimp only at hSw); go_simp; try with_reducible rfl)
                  try simp only [Act.put, List.setIfInBounds_toArray, List.set_cons_zero, List.set_cons_succ]
                  refine wpAnyH_take (i := 12) (oi := { dst := some 97, op := Go.Op.binOp Go.BinOp.eql 3 (Go.Operand.tmp 92) (Go.Operand.tmp 96) 3, type := 4, pos := "l12_count.go:69", after := #[{ on := 7, ground := Go.Ground.data }, { on := 11, ground := Go.Ground.data }, { on := 3, ground := Go.Ground.guard }], guard := some (3, false) }) (v := ?_) rfl (by kernel_rfl) (by kernel_rfl) (by kernel_rfl) (fun _ _ _ h => h) (Or.inl ⟨by rfl, ?_⟩) (by assumption) ?_
                  rotate_left
                  · (intro w hSw; (try dsimp only at hSw); go_simp; try with_reducible rfl)
                  try simp only [Act.put, List.setIfInBounds_toArray, List.set_cons_zero, List.set_cons_succ]
                  refine wpAnyH_take (i := 13) (oi := { dst := some 98, op := Go.Op.pick (Go.Operand.tmp 88) (Go.Operand.const (Go.Value.bool true)) (Go.Operand.tmp 97), type := 4, pos := "l12_count.go:69", after := #[{ on := 3, ground := Go.Ground.data }, { on := 12, ground := Go.Ground.data }], guard := none }) (v := ?_) rfl (by kernel_rfl) (by kernel_rfl) (by kernel_rfl) (fun _ _ _ h => h) (Or.inl ⟨by rfl, ?_⟩) (by assumption) ?_
                  rotate_left
                  · (intro w hSw; (try dsimp only at hSw); go_simp; try with_reducible rfl)
                  try simp only [Act.put, List.setIfInBounds_toArray, List.set_cons_zero, List.set_cons_succ]
                  refine wpAnyH_done (by kernel_rfl) ?_ _
                  go_wp2_with fail
                  go_roundw
                  case rel => exact ⟨t + 1, by omega, by go_num, HN.out⟩
                  case measure => simp [intOf]; omega
                · have hq : (((u t : Nat) : Int) == ((v t : Nat) : Int)) = false := by rw [beq_eq_false_iff_ne]; omega
                  have HFin := Lib.hid (lap_four (u := u) (v := v) (E := E) (k := t) hEt rfl rfl hxy)
                  have hbd := fun p q => lap_bd u v E p q t
                  generalize u t = X at *
                  generalize v t = Y at *
                  have hx0' : (0 : Int) ≤ (X : Int) := Int.natCast_nonneg _
                  have hx1' : (X : Int) < (i : Int) := by omega
                  have hy0' : (0 : Int) ≤ (Y : Int) := Int.natCast_nonneg _
                  have hy1' : (Y : Int) < (i : Int) := by omega
                  obtain ⟨zxx, hzxx⟩ : ∃ z, lap t u v E X X + 1 = z := ⟨_, rfl⟩
                  obtain ⟨zyy, hzyy⟩ : ∃ z, lap t u v E Y Y + 1 = z := ⟨_, rfl⟩
                  obtain ⟨zxy, hzxy⟩ : ∃ z, lap t u v E X Y - 1 = z := ⟨_, rfl⟩
                  obtain ⟨zyx, hzyx⟩ : ∃ z, lap t u v E Y X - 1 = z := ⟨_, rfl⟩
                  have wxx : IntKind.i64.wrap zxx = zxx := IntWalk.i64_in _ (by have := hbd X X; omega)
                  have wyy : IntKind.i64.wrap zyy = zyy := IntWalk.i64_in _ (by have := hbd Y Y; omega)
                  have wxy : IntKind.i64.wrap zxy = zxy := IntWalk.i64_in _ (by have := hbd X Y; omega)
                  have wyx : IntKind.i64.wrap zyx = zyx := IntWalk.i64_in _ (by have := hbd Y X; omega)
                  rw [hzxx, hzyy, hzxy, hzyx] at HFin
                  have HPa : Hid (((plc L a : Nat) : Int) = (X : Int)) := Lib.hid (by rw [hU1])
                  have HPb : Hid (((plc L bb : Nat) : Int) = (Y : Int)) := Lib.hid (by rw [hU2])
                  clear hbd hU1 hU2 hU3 hsk hEt
                  go_wp2_with fail
                  try simp only [List.cons_append, List.nil_append, List.append_eq]
                  refine wp_region_held_drew (S := (fun w' => w'.cell? ⟨W.heap.size + 1, a, none⟩ = some (.int .i64 (X : Int)) ∧ w'.cell? ⟨W.heap.size + 1, bb, none⟩ = some (.int .i64 (Y : Int)))) (by kernel_rfl) ?_ (fun hHeld0 => ?_)
                  · (try dsimp only); go_keep
                  refine wpAnyH_take (i := 0) (oi := { dst := some 85, op := Go.Op.move (Go.Operand.tmp 1), type := 3, pos := "l12_count.go:69", after := #[], guard := none }) (v := ?_) rfl (by kernel_rfl) (by kernel_rfl) (by kernel_rfl) (fun _ _ _ h => h) (Or.inl ⟨by rfl, ?_⟩) (by assumption) ?_
                  rotate_left
                  · (intro w hSw; (try dsimp only at hSw); go_simp; try with_reducible rfl)
                  try simp only [Act.put, List.setIfInBounds_toArray, List.set_cons_zero, List.set_cons_succ]
                  refine wpAnyH_take (i := 1) (oi := { dst := some 86, op := Go.Op.move (Go.Operand.tmp 13), type := 3, pos := "l12_count.go:69", after := #[], guard := none }) (v := ?_) rfl (by kernel_rfl) (by kernel_rfl) (by kernel_rfl) (fun _ _ _ h => h) (Or.inl ⟨by rfl, ?_⟩) (by assumption) ?_
                  rotate_left
                  · (intro w hSw; (try dsimp only at hSw); go_simp; try with_reducible rfl)
                  try simp only [Act.put, List.setIfInBounds_toArray, List.set_cons_zero, List.set_cons_succ]
                  refine wpAnyH_ready (rs := [2]) (by kernel_rfl) (by simp) ?_
                  refine AllReadyH.cons (o := { dst := some 87, op := Go.Op.call { callee := Go.Callee.value (Go.Operand.func 39), args := #[Go.Operand.tmp 85, Go.Operand.tmp 86], argTypes := #[3, 3] }, type := 4, pos := "l12_count.go:69", after := #[{ on := 0, ground := Go.Ground.data }, { on := 1, ground := Go.Ground.data }], guard := none }) rfl (fun K2 hK2 => ?_) AllReadyH.nil
                  go_simp
                  (refine (HT1.out _).mono ?_; rintro e w' ⟨rfl, rfl⟩)
                  go_wp2_with fail
                  refine hK2.out _ _ ?_ (fun hHeld1 => ?_)
                  · (try dsimp only); go_keep
                  clear hK2 K2 hHeld0
                  try simp only [Act.put, List.setIfInBounds_toArray, List.set_cons_zero, List.set_cons_succ]
                  refine wpAnyH_take (i := 3) (oi := { dst := some 88, op := Go.Op.move (Go.Operand.tmp 87), type := 4, pos := "l12_count.go:69", after := #[{ on := 2, ground := Go.Ground.data }, { on := 2, ground := Go.Ground.chain }], guard := none }) (v := ?_) rfl (by kernel_rfl) (by kernel_rfl) (by kernel_rfl) (fun _ _ _ h => h) (Or.inl ⟨by rfl, ?_⟩) (by assumption) ?_
                  rotate_left
                  · (intro w hSw; (try dsimp only at hSw); go_simp; try with_reducible rfl)
                  try simp only [Act.put, List.setIfInBounds_toArray, List.set_cons_zero, List.set_cons_succ]
                  refine wpAnyH_take (i := 4) (oi := { dst := some 89, op := Go.Op.move (Go.Operand.tmp 7), type := 69, pos := "l12_count.go:69", after := #[{ on := 3, ground := Go.Ground.guard }], guard := some (3, false) }) (v := ?_) rfl (by kernel_rfl) (by kernel_rfl) (by kernel_rfl) (fun _ _ _ h => h) (Or.inl ⟨by rfl, ?_⟩) (by assumption) ?_
                  rotate_left
                  · (intro w hSw; (try dsimp only at hSw); go_simp; try with_reducible rfl)
                  try simp only [Act.put, List.setIfInBounds_toArray, List.set_cons_zero, List.set_cons_succ]
                  refine wpAnyH_take (i := 5) (oi := { dst := some 90, op := Go.Op.move (Go.Operand.tmp 14), type := 3, pos := "l12_count.go:69", after := #[{ on := 3, ground := Go.Ground.guard }], guard := some (3, false) }) (v := ?_) rfl (by kernel_rfl) (by kernel_rfl) (by kernel_rfl) (fun _ _ _ h => h) (Or.inl ⟨by rfl, ?_⟩) (by assumption) ?_
                  rotate_left
                  · (intro w hSw; (try dsimp only at hSw); go_simp; try with_reducible rfl)
                  try simp only [Act.put, List.setIfInBounds_toArray, List.set_cons_zero, List.set_cons_succ]
                  refine wpAnyH_take (i := 6) (oi := { dst := some 91, op := Go.Op.indexAddr 69 (Go.Operand.tmp 89) (Go.Operand.tmp 90), type := 0, pos := "l12_count.go:69", after := #[{ on := 4, ground := Go.Ground.data }, { on := 5, ground := Go.Ground.data }, { on := 3, ground := Go.Ground.guard }], guard := some (3, false) }) (v := ?_) rfl (by kernel_rfl) (by kernel_rfl) (by kernel_rfl) (fun _ _ _ h => h) (Or.inl ⟨by rfl, ?_⟩) (by assumption) ?_
                  rotate_left
                  · (intro w hSw; (try dsimp only at hSw); go_simp; try with_reducible rfl)
                  try simp only [Act.put, List.setIfInBounds_toArray, List.set_cons_zero, List.set_cons_succ]
                  refine wpAnyH_take (i := 7) (oi := { dst := some 92, op := Go.Op.load 3 (Go.Operand.tmp 91), type := 3, pos := "l12_count.go:69", after := #[{ on := 6, ground := Go.Ground.data }, { on := 3, ground := Go.Ground.guard }], guard := some (3, false) }) (v := ?_) rfl (by kernel_rfl) (by kernel_rfl) (by kernel_rfl) (fun _ _ _ h => h) (Or.inl ⟨by rfl, ?_⟩) (by assumption) ?_
                  rotate_left
                  · (intro w hSw; (try dsimp only at hSw); go_simp; try with_reducible rfl)
                  try simp only [Act.put, List.setIfInBounds_toArray, List.set_cons_zero, List.set_cons_succ]
                  refine wpAnyH_take (i := 8) (oi := { dst := some 93, op := Go.Op.move (Go.Operand.tmp 7), type := 69, pos := "l12_count.go:69", after := #[{ on := 3, ground := Go.Ground.guard }], guard := some (3, false) }) (v := ?_) rfl (by kernel_rfl) (by kernel_rfl) (by kernel_rfl) (fun _ _ _ h => h) (Or.inl ⟨by rfl, ?_⟩) (by assumption) ?_
                  rotate_left
                  · (intro w hSw; (try dsimp only at hSw); go_simp; try with_reducible rfl)
                  try simp only [Act.put, List.setIfInBounds_toArray, List.set_cons_zero, List.set_cons_succ]
                  refine wpAnyH_take (i := 9) (oi := { dst := some 94, op := Go.Op.move (Go.Operand.tmp 15), type := 3, pos := "l12_count.go:69", after := #[{ on := 3, ground := Go.Ground.guard }], guard := some (3, false) }) (v := ?_) rfl (by kernel_rfl) (by kernel_rfl) (by kernel_rfl) (fun _ _ _ h => h) (Or.inl ⟨by rfl, ?_⟩) (by assumption) ?_
                  rotate_left
                  · (intro w hSw; (try dsimp only at hSw); go_simp; try with_reducible rfl)
                  try simp only [Act.put, List.setIfInBounds_toArray, List.set_cons_zero, List.set_cons_succ]
                  refine wpAnyH_take (i := 10) (oi := { dst := some 95, op := Go.Op.indexAddr 69 (Go.Operand.tmp 93) (Go.Operand.tmp 94), type := 0, pos := "l12_count.go:69", after := #[{ on := 8, ground := Go.Ground.data }, { on := 9, ground := Go.Ground.data }, { on := 3, ground := Go.Ground.guard }], guard := some (3, false) }) (v := ?_) rfl (by kernel_rfl) (by kernel_rfl) (by kernel_rfl) (fun _ _ _ h => h) (Or.inl ⟨by rfl, ?_⟩) (by assumption) ?_
                  rotate_left
                  · (intro w hSw; (try dsimp only at hSw); go_simp; try with_reducible rfl)
                  try simp only [Act.put, List.setIfInBounds_toArray, List.set_cons_zero, List.set_cons_succ]
                  refine wpAnyH_take (i := 11) (oi := { dst := some 96, op := Go.Op.load 3 (Go.Operand.tmp 95), type := 3, pos := "l12_count.go:69", after := #[{ on := 10, ground := Go.Ground.data }, { on := 3, ground := Go.Ground.guard }], guard := some (3, false) }) (v := ?_) rfl (by kernel_rfl) (by kernel_rfl) (by kernel_rfl) (fun _ _ _ h => h) (Or.inl ⟨by rfl, ?_⟩) (by assumption) ?_
                  rotate_left
                  · (intro w hSw; (try dsimp only at hSw); go_simp; try with_reducible rfl)
                  try simp only [Act.put, List.setIfInBounds_toArray, List.set_cons_zero, List.set_cons_succ]
                  refine wpAnyH_take (i := 12) (oi := { dst := some 97, op := Go.Op.binOp Go.BinOp.eql 3 (Go.Operand.tmp 92) (Go.Operand.tmp 96) 3, type := 4, pos := "l12_count.go:69", after := #[{ on := 7, ground := Go.Ground.data }, { on := 11, ground := Go.Ground.data }, { on := 3, ground := Go.Ground.guard }], guard := some (3, false) }) (v := ?_) rfl (by kernel_rfl) (by kernel_rfl) (by kernel_rfl) (fun _ _ _ h => h) (Or.inl ⟨by rfl, ?_⟩) (by assumption) ?_
                  rotate_left
                  · (intro w hSw; (try dsimp only at hSw); go_simp; try with_reducible rfl)
                  try simp only [Act.put, List.setIfInBounds_toArray, List.set_cons_zero, List.set_cons_succ]
                  refine wpAnyH_take (i := 13) (oi := { dst := some 98, op := Go.Op.pick (Go.Operand.tmp 88) (Go.Operand.const (Go.Value.bool true)) (Go.Operand.tmp 97), type := 4, pos := "l12_count.go:69", after := #[{ on := 3, ground := Go.Ground.data }, { on := 12, ground := Go.Ground.data }], guard := none }) (v := ?_) rfl (by kernel_rfl) (by kernel_rfl) (by kernel_rfl) (fun _ _ _ h => h) (Or.inl ⟨by rfl, ?_⟩) (by assumption) ?_
                  rotate_left
                  · (intro w hSw; (try dsimp only at hSw); go_simp; try with_reducible rfl)
                  try simp only [Act.put, List.setIfInBounds_toArray, List.set_cons_zero, List.set_cons_succ]
                  refine wpAnyH_done (by kernel_rfl) ?_ _
                  go_wp2_with fail
                  have hxyN : X ≠ Y := hxy
                  have hPa : ((plc L a : Nat) : Int) = (X : Int) := HPa.out
                  have hPb : ((plc L bb : Nat) : Int) = (Y : Int) := HPb.out
                  have HF0 : Hid ((fun p q => lap t u v E p q) X X = zxx - 1 ∧ (fun p q => lap t u v E p q) Y Y = zyy - 1 ∧ (fun p q => lap t u v E p q) X Y = zxy + 1 ∧ (fun p q => lap t u v E p q) Y X = zyx + 1) := Lib.hid ⟨by simp only; omega, by simp only; omega, by simp only; omega, by simp only; omega⟩
                  have htsA := Lib.hid hts2.out.dr
                  clear hts2 hzxx hzyy hzxy hzyx
                  generalize (fun p q => lap t u v E p q) = F0 at *
                  generalize w2.drew = w3 at *
                  obtain ⟨gr, cr, rr, hbr, hlr, -, -, er⟩ := htsA.out.row hX1
                  obtain ⟨gq, cq, rq, -⟩ := htsA.out.row hX2
                  have hgg := (mt_apart htsA.out.1 hX1 hX2 hxyN rr rq).2
                  have hgQ : gr ≠ W.heap.size + 1 := by have := htsA.out.2.2; omega
                  obtain ⟨ec, ef⟩ := er X hX1
                  rw [HF0.out.1] at ec
                  obtain ⟨hx1, -⟩ := htsA.out.2.1.cell (show a < k by omega)
                  obtain ⟨hx2, -⟩ := htsA.out.2.1.cell el2
                  rw [hPa] at hx1
                  rw [hPb] at hx2
                  have htsB := Lib.hid (htsA.out.dr.put (f' := (ud F0 X X zxx)) hX1 hX1 hbr rr (ud_at _ _ _ _) (ud_far _ _ _ _))
                  have hzz : zxx - 1 + 1 = zxx := by omega
                  clear rq er htsA
                  try simp only [List.cons_append, List.nil_append, List.append_eq]
                  refine wp_region_held_drew (S := (fun w' => w'.cell? ⟨W.heap.size + 1, a, none⟩ = some (.int .i64 (X : Int)) ∧ w'.cell? ⟨W.heap.size + 1, bb, none⟩ = some (.int .i64 (Y : Int)) ∧ w'.cell? ⟨g, X, none⟩ = some (.slice (some ⟨gr, 0, none⟩) i cr))) (by kernel_rfl) ?_ (fun hHeld0 => ?_)
                  · (try dsimp only); go_keep
                  refine wpAnyH_take (i := 0) (oi := { dst := some 99, op := Go.Op.move (Go.Operand.tmp 11), type := 67, pos := "l12_count.go:72", after := #[], guard := none }) (v := ?_) rfl (by kernel_rfl) (by kernel_rfl) (by kernel_rfl) (fun _ _ _ h => h) (Or.inl ⟨by rfl, ?_⟩) (by assumption) ?_
                  rotate_left
                  · (intro w hSw; (try dsimp only at hSw); go_simp; try with_reducible rfl)
                  try simp only [Act.put, List.setIfInBounds_toArray, List.set_cons_zero, List.set_cons_succ]
                  refine wpAnyH_take (i := 1) (oi := { dst := some 100, op := Go.Op.move (Go.Operand.tmp 7), type := 69, pos := "l12_count.go:72", after := #[], guard := none }) (v := ?_) rfl (by kernel_rfl) (by kernel_rfl) (by kernel_rfl) (fun _ _ _ h => h) (Or.inl ⟨by rfl, ?_⟩) (by assumption) ?_
                  rotate_left
                  · (intro w hSw; (try dsimp only at hSw); go_simp; try with_reducible rfl)
                  try simp only [Act.put, List.setIfInBounds_toArray, List.set_cons_zero, List.set_cons_succ]
                  refine wpAnyH_take (i := 2) (oi := { dst := some 101, op := Go.Op.move (Go.Operand.tmp 14), type := 3, pos := "l12_count.go:72", after := #[], guard := none }) (v := ?_) rfl (by kernel_rfl) (by kernel_rfl) (by kernel_rfl) (fun _ _ _ h => h) (Or.inl ⟨by rfl, ?_⟩) (by assumption) ?_
                  rotate_left
                  · (intro w hSw; (try dsimp only at hSw); go_simp; try with_reducible rfl)
                  try simp only [Act.put, List.setIfInBounds_toArray, List.set_cons_zero, List.set_cons_succ]
                  refine wpAnyH_take (i := 3) (oi := { dst := some 102, op := Go.Op.indexAddr 69 (Go.Operand.tmp 100) (Go.Operand.tmp 101), type := 0, pos := "l12_count.go:72", after := #[{ on := 1, ground := Go.Ground.data }, { on := 2, ground := Go.Ground.data }], guard := none }) (v := ?_) rfl (by kernel_rfl) (by kernel_rfl) (by kernel_rfl) (fun _ _ _ h => h) (Or.inl ⟨by rfl, ?_⟩) (by assumption) ?_
                  rotate_left
                  · (intro w hSw; (try dsimp only at hSw); go_simp; try with_reducible rfl)
                  try simp only [Act.put, List.setIfInBounds_toArray, List.set_cons_zero, List.set_cons_succ]
                  refine wpAnyH_take (i := 4) (oi := { dst := some 103, op := Go.Op.load 3 (Go.Operand.tmp 102), type := 3, pos := "l12_count.go:72", after := #[{ on := 3, ground := Go.Ground.data }], guard := none }) (v := ?_) rfl (by kernel_rfl) (by kernel_rfl) (by kernel_rfl) (fun _ _ _ h => h) (Or.inl ⟨by rfl, ?_⟩) (by assumption) ?_
                  rotate_left
                  · (intro w hSw; (try dsimp only at hSw); go_simp; try with_reducible rfl)
                  try simp only [Act.put, List.setIfInBounds_toArray, List.set_cons_zero, List.set_cons_succ]
                  refine wpAnyH_take (i := 5) (oi := { dst := some 104, op := Go.Op.indexAddr 67 (Go.Operand.tmp 99) (Go.Operand.tmp 103), type := 0, pos := "l12_count.go:72", after := #[{ on := 0, ground := Go.Ground.data }, { on := 4, ground := Go.Ground.data }], guard := none }) (v := ?_) rfl (by kernel_rfl) (by kernel_rfl) (by kernel_rfl) (fun _ _ _ h => h) (Or.inl ⟨by rfl, ?_⟩) (by assumption) ?_
                  rotate_left
                  · (intro w hSw; (try dsimp only at hSw); go_simp; try with_reducible rfl)
                  try simp only [Act.put, List.setIfInBounds_toArray, List.set_cons_zero, List.set_cons_succ]
                  refine wpAnyH_take (i := 6) (oi := { dst := some 105, op := Go.Op.load 69 (Go.Operand.tmp 104), type := 69, pos := "l12_count.go:72", after := #[{ on := 5, ground := Go.Ground.data }], guard := none }) (v := ?_) rfl (by kernel_rfl) (by kernel_rfl) (by kernel_rfl) (fun _ _ _ h => h) (Or.inl ⟨by rfl, ?_⟩) (by assumption) ?_
                  rotate_left
                  · (intro w hSw; (try dsimp only at hSw); go_simp; try with_reducible rfl)
                  try simp only [Act.put, List.setIfInBounds_toArray, List.set_cons_zero, List.set_cons_succ]
                  refine wpAnyH_take (i := 7) (oi := { dst := some 106, op := Go.Op.move (Go.Operand.tmp 7), type := 69, pos := "l12_count.go:72", after := #[], guard := none }) (v := ?_) rfl (by kernel_rfl) (by kernel_rfl) (by kernel_rfl) (fun _ _ _ h => h) (Or.inl ⟨by rfl, ?_⟩) (by assumption) ?_
                  rotate_left
                  · (intro w hSw; (try dsimp only at hSw); go_simp; try with_reducible rfl)
                  try simp only [Act.put, List.setIfInBounds_toArray, List.set_cons_zero, List.set_cons_succ]
                  refine wpAnyH_take (i := 8) (oi := { dst := some 107, op := Go.Op.move (Go.Operand.tmp 14), type := 3, pos := "l12_count.go:72", after := #[], guard := none }) (v := ?_) rfl (by kernel_rfl) (by kernel_rfl) (by kernel_rfl) (fun _ _ _ h => h) (Or.inl ⟨by rfl, ?_⟩) (by assumption) ?_
                  rotate_left
                  · (intro w hSw; (try dsimp only at hSw); go_simp; try with_reducible rfl)
                  try simp only [Act.put, List.setIfInBounds_toArray, List.set_cons_zero, List.set_cons_succ]
                  refine wpAnyH_take (i := 9) (oi := { dst := some 108, op := Go.Op.indexAddr 69 (Go.Operand.tmp 106) (Go.Operand.tmp 107), type := 0, pos := "l12_count.go:72", after := #[{ on := 7, ground := Go.Ground.data }, { on := 8, ground := Go.Ground.data }], guard := none }) (v := ?_) rfl (by kernel_rfl) (by kernel_rfl) (by kernel_rfl) (fun _ _ _ h => h) (Or.inl ⟨by rfl, ?_⟩) (by assumption) ?_
                  rotate_left
                  · (intro w hSw; (try dsimp only at hSw); go_simp; try with_reducible rfl)
                  try simp only [Act.put, List.setIfInBounds_toArray, List.set_cons_zero, List.set_cons_succ]
                  refine wpAnyH_take (i := 10) (oi := { dst := some 109, op := Go.Op.load 3 (Go.Operand.tmp 108), type := 3, pos := "l12_count.go:72", after := #[{ on := 9, ground := Go.Ground.data }], guard := none }) (v := ?_) rfl (by kernel_rfl) (by kernel_rfl) (by kernel_rfl) (fun _ _ _ h => h) (Or.inl ⟨by rfl, ?_⟩) (by assumption) ?_
                  rotate_left
                  · (intro w hSw; (try dsimp only at hSw); go_simp; try with_reducible rfl)
                  try simp only [Act.put, List.setIfInBounds_toArray, List.set_cons_zero, List.set_cons_succ]
                  refine wpAnyH_take (i := 11) (oi := { dst := some 110, op := Go.Op.move (Go.Operand.tmp 11), type := 67, pos := "l12_count.go:72", after := #[], guard := none }) (v := ?_) rfl (by kernel_rfl) (by kernel_rfl) (by kernel_rfl) (fun _ _ _ h => h) (Or.inl ⟨by rfl, ?_⟩) (by assumption) ?_
                  rotate_left
                  · (intro w hSw; (try dsimp only at hSw); go_simp; try with_reducible rfl)
                  try simp only [Act.put, List.setIfInBounds_toArray, List.set_cons_zero, List.set_cons_succ]
                  refine wpAnyH_take (i := 12) (oi := { dst := some 111, op := Go.Op.move (Go.Operand.tmp 7), type := 69, pos := "l12_count.go:72", after := #[], guard := none }) (v := ?_) rfl (by kernel_rfl) (by kernel_rfl) (by kernel_rfl) (fun _ _ _ h => h) (Or.inl ⟨by rfl, ?_⟩) (by assumption) ?_
                  rotate_left
                  · (intro w hSw; (try dsimp only at hSw); go_simp; try with_reducible rfl)
                  try simp only [Act.put, List.setIfInBounds_toArray, List.set_cons_zero, List.set_cons_succ]
                  refine wpAnyH_take (i := 13) (oi := { dst := some 112, op := Go.Op.move (Go.Operand.tmp 14), type := 3, pos := "l12_count.go:72", after := #[], guard := none }) (v := ?_) rfl (by kernel_rfl) (by kernel_rfl) (by kernel_rfl) (fun _ _ _ h => h) (Or.inl ⟨by rfl, ?_⟩) (by assumption) ?_
                  rotate_left
                  · (intro w hSw; (try dsimp only at hSw); go_simp; try with_reducible rfl)
                  try simp only [Act.put, List.setIfInBounds_toArray, List.set_cons_zero, List.set_cons_succ]
                  refine wpAnyH_take (i := 14) (oi := { dst := some 113, op := Go.Op.indexAddr 69 (Go.Operand.tmp 111) (Go.Operand.tmp 112), type := 0, pos := "l12_count.go:72", after := #[{ on := 12, ground := Go.Ground.data }, { on := 13, ground := Go.Ground.data }], guard := none }) (v := ?_) rfl (by kernel_rfl) (by kernel_rfl) (by kernel_rfl) (fun _ _ _ h => h) (Or.inl ⟨by rfl, ?_⟩) (by assumption) ?_
                  rotate_left
                  · (intro w hSw; (try dsimp only at hSw); go_simp; try with_reducible rfl)
                  try simp only [Act.put, List.setIfInBounds_toArray, List.set_cons_zero, List.set_cons_succ]
                  refine wpAnyH_take (i := 15) (oi := { dst := some 114, op := Go.Op.load 3 (Go.Operand.tmp 113), type := 3, pos := "l12_count.go:72", after := #[{ on := 14, ground := Go.Ground.data }], guard := none }) (v := ?_) rfl (by kernel_rfl) (by kernel_rfl) (by kernel_rfl) (fun _ _ _ h => h) (Or.inl ⟨by rfl, ?_⟩) (by assumption) ?_
                  rotate_left
                  · (intro w hSw; (try dsimp only at hSw); go_simp; try with_reducible rfl)
                  try simp only [Act.put, List.setIfInBounds_toArray, List.set_cons_zero, List.set_cons_succ]
                  refine wpAnyH_take (i := 16) (oi := { dst := some 115, op := Go.Op.indexAddr 67 (Go.Operand.tmp 110) (Go.Operand.tmp 114), type := 0, pos := "l12_count.go:72", after := #[{ on := 11, ground := Go.Ground.data }, { on := 15, ground := Go.Ground.data }], guard := none }) (v := ?_) rfl (by kernel_rfl) (by kernel_rfl) (by kernel_rfl) (fun _ _ _ h => h) (Or.inl ⟨by rfl, ?_⟩) (by assumption) ?_
                  rotate_left
                  · (intro w hSw; (try dsimp only at hSw); go_simp; try with_reducible rfl)
                  try simp only [Act.put, List.setIfInBounds_toArray, List.set_cons_zero, List.set_cons_succ]
                  refine wpAnyH_take (i := 17) (oi := { dst := some 116, op := Go.Op.load 69 (Go.Operand.tmp 115), type := 69, pos := "l12_count.go:72", after := #[{ on := 16, ground := Go.Ground.data }], guard := none }) (v := ?_) rfl (by kernel_rfl) (by kernel_rfl) (by kernel_rfl) (fun _ _ _ h => h) (Or.inl ⟨by rfl, ?_⟩) (by assumption) ?_
                  rotate_left
                  · (intro w hSw; (try dsimp only at hSw); go_simp; try with_reducible rfl)
                  try simp only [Act.put, List.setIfInBounds_toArray, List.set_cons_zero, List.set_cons_succ]
                  refine wpAnyH_take (i := 18) (oi := { dst := some 117, op := Go.Op.move (Go.Operand.tmp 7), type := 69, pos := "l12_count.go:72", after := #[], guard := none }) (v := ?_) rfl (by kernel_rfl) (by kernel_rfl) (by kernel_rfl) (fun _ _ _ h => h) (Or.inl ⟨by rfl, ?_⟩) (by assumption) ?_
                  rotate_left
                  · (intro w hSw; (try dsimp only at hSw); go_simp; try with_reducible rfl)
                  try simp only [Act.put, List.setIfInBounds_toArray, List.set_cons_zero, List.set_cons_succ]
                  refine wpAnyH_take (i := 19) (oi := { dst := some 118, op := Go.Op.move (Go.Operand.tmp 14), type := 3, pos := "l12_count.go:72", after := #[], guard := none }) (v := ?_) rfl (by kernel_rfl) (by kernel_rfl) (by kernel_rfl) (fun _ _ _ h => h) (Or.inl ⟨by rfl, ?_⟩) (by assumption) ?_
                  rotate_left
                  · (intro w hSw; (try dsimp only at hSw); go_simp; try with_reducible rfl)
                  try simp only [Act.put, List.setIfInBounds_toArray, List.set_cons_zero, List.set_cons_succ]
                  refine wpAnyH_take (i := 20) (oi := { dst := some 119, op := Go.Op.indexAddr 69 (Go.Operand.tmp 117) (Go.Operand.tmp 118), type := 0, pos := "l12_count.go:72", after := #[{ on := 18, ground := Go.Ground.data }, { on := 19, ground := Go.Ground.data }], guard := none }) (v := ?_) rfl (by kernel_rfl) (by kernel_rfl) (by kernel_rfl) (fun _ _ _ h => h) (Or.inl ⟨by rfl, ?_⟩) (by assumption) ?_
                  rotate_left
                  · (intro w hSw; (try dsimp only at hSw); go_simp; try with_reducible rfl)
                  try simp only [Act.put, List.setIfInBounds_toArray, List.set_cons_zero, List.set_cons_succ]
                  refine wpAnyH_take (i := 21) (oi := { dst := some 120, op := Go.Op.load 3 (Go.Operand.tmp 119), type := 3, pos := "l12_count.go:72", after := #[{ on := 20, ground := Go.Ground.data }], guard := none }) (v := ?_) rfl (by kernel_rfl) (by kernel_rfl) (by kernel_rfl) (fun _ _ _ h => h) (Or.inl ⟨by rfl, ?_⟩) (by assumption) ?_
                  rotate_left
                  · (intro w hSw; (try dsimp only at hSw); go_simp; try with_reducible rfl)
                  try simp only [Act.put, List.setIfInBounds_toArray, List.set_cons_zero, List.set_cons_succ]
                  refine wpAnyH_take (i := 22) (oi := { dst := some 121, op := Go.Op.indexAddr 69 (Go.Operand.tmp 116) (Go.Operand.tmp 120), type := 0, pos := "l12_count.go:72", after := #[{ on := 17, ground := Go.Ground.data }, { on := 21, ground := Go.Ground.data }], guard := none }) (v := ?_) rfl (by kernel_rfl) (by kernel_rfl) (by kernel_rfl) (fun _ _ _ h => h) (Or.inl ⟨by rfl, ?_⟩) (by assumption) ?_
                  rotate_left
                  · (intro w hSw; (try dsimp only at hSw); go_simp; try with_reducible rfl)
                  try simp only [Act.put, List.setIfInBounds_toArray, List.set_cons_zero, List.set_cons_succ]
                  refine wpAnyH_ready (rs := [23]) (by kernel_rfl) (by simp) ?_
                  refine AllReadyH.cons (o := { dst := some 122, op := Go.Op.load 3 (Go.Operand.tmp 121), type := 3, pos := "l12_count.go:72", after := #[{ on := 22, ground := Go.Ground.data }], guard := none }) rfl (fun K23 hK23 => ?_) AllReadyH.nil
                  go_simp
                  refine hK23.out _ _ ?_ (fun hHeld1 => ?_)
                  · (try dsimp only); go_keep
                  clear hK23 K23 hHeld0
                  try simp only [Act.put, List.setIfInBounds_toArray, List.set_cons_zero, List.set_cons_succ]
                  refine wpAnyH_take (i := 24) (oi := { dst := some 123, op := Go.Op.binOp Go.BinOp.add 3 (Go.Operand.tmp 122) (Go.Operand.const (Go.Value.int Go.IntKind.i64 1)) 3, type := 3, pos := "l12_count.go:72", after := #[{ on := 23, ground := Go.Ground.data }], guard := none }) (v := ?_) rfl (by kernel_rfl) (by kernel_rfl) (by kernel_rfl) (fun _ _ _ h => h) (Or.inl ⟨by rfl, ?_⟩) (by assumption) ?_
                  rotate_left
                  · (intro w hSw; (try dsimp only at hSw); go_simp; try with_reducible rfl)
                  try simp only [Act.put, List.setIfInBounds_toArray, List.set_cons_zero, List.set_cons_succ]
                  refine wpAnyH_take (i := 25) (oi := { dst := some 124, op := Go.Op.indexAddr 69 (Go.Operand.tmp 105) (Go.Operand.tmp 109), type := 0, pos := "l12_count.go:72", after := #[{ on := 6, ground := Go.Ground.data }, { on := 10, ground := Go.Ground.data }, { on := 0, ground := Go.Ground.phase }, { on := 1, ground := Go.Ground.phase }, { on := 2, ground := Go.Ground.phase }, { on := 3, ground := Go.Ground.phase }, { on := 4, ground := Go.Ground.phase }, { on := 5, ground := Go.Ground.phase }, { on := 6, ground := Go.Ground.phase }, { on := 7, ground := Go.Ground.phase }, { on := 8, ground := Go.Ground.phase }, { on := 9, ground := Go.Ground.phase }, { on := 10, ground := Go.Ground.phase }, { on := 11, ground := Go.Ground.phase }, { on := 12, ground := Go.Ground.phase }, { on := 13, ground := Go.Ground.phase }, { on := 14, ground := Go.Ground.phase }, { on := 15, ground := Go.Ground.phase }, { on := 16, ground := Go.Ground.phase }, { on := 17, ground := Go.Ground.phase }, { on := 18, ground := Go.Ground.phase }, { on := 19, ground := Go.Ground.phase }, { on := 20, ground := Go.Ground.phase }, { on := 21, ground := Go.Ground.phase }, { on := 22, ground := Go.Ground.phase }, { on := 23, ground := Go.Ground.phase }, { on := 24, ground := Go.Ground.phase }], guard := none }) (v := ?_) rfl (by kernel_rfl) (by kernel_rfl) (by kernel_rfl) (fun _ _ _ h => h) (Or.inl ⟨by rfl, ?_⟩) (by assumption) ?_
                  rotate_left
                  · (intro w hSw; (try dsimp only at hSw); go_simp; try with_reducible rfl)
                  try simp only [Act.put, List.setIfInBounds_toArray, List.set_cons_zero, List.set_cons_succ]
                  refine wpAnyH_ready (rs := [26]) (by kernel_rfl) (by simp) ?_
                  refine AllReadyH.cons (o := { dst := none, op := Go.Op.store 3 (Go.Operand.tmp 124) (Go.Operand.tmp 123), type := 0, pos := "l12_count.go:72", after := #[{ on := 25, ground := Go.Ground.data }, { on := 24, ground := Go.Ground.data }, { on := 0, ground := Go.Ground.phase }, { on := 1, ground := Go.Ground.phase }, { on := 2, ground := Go.Ground.phase }, { on := 3, ground := Go.Ground.phase }, { on := 4, ground := Go.Ground.phase }, { on := 5, ground := Go.Ground.phase }, { on := 6, ground := Go.Ground.phase }, { on := 7, ground := Go.Ground.phase }, { on := 8, ground := Go.Ground.phase }, { on := 9, ground := Go.Ground.phase }, { on := 10, ground := Go.Ground.phase }, { on := 11, ground := Go.Ground.phase }, { on := 12, ground := Go.Ground.phase }, { on := 13, ground := Go.Ground.phase }, { on := 14, ground := Go.Ground.phase }, { on := 15, ground := Go.Ground.phase }, { on := 16, ground := Go.Ground.phase }, { on := 17, ground := Go.Ground.phase }, { on := 18, ground := Go.Ground.phase }, { on := 19, ground := Go.Ground.phase }, { on := 20, ground := Go.Ground.phase }, { on := 21, ground := Go.Ground.phase }, { on := 22, ground := Go.Ground.phase }, { on := 23, ground := Go.Ground.phase }, { on := 24, ground := Go.Ground.phase }], guard := none }) rfl (fun K26 hK26 => ?_) AllReadyH.nil
                  go_simp
                  refine hK26.out _ _ ?_ (fun hHeld2 => ?_)
                  · (try dsimp only); exact ⟨(World.cell?_setCell_other _ _ _ _ (by simp; try omega)).trans hx1, (World.cell?_setCell_other _ _ _ _ (by simp; try omega)).trans hx2, (World.cell?_setCell_other _ _ _ _ (by simp; try omega)).trans rr⟩
                  clear hK26 K26 hHeld1
                  try simp only [Act.put, List.setIfInBounds_toArray, List.set_cons_zero, List.set_cons_succ]
                  refine wpAnyH_done (by kernel_rfl) ?_ _
                  go_wp2_with fail
                  have htsB := Lib.hid (show TS W x y b (W.heap.size + 1) k g i c11 (mtr k fun c => (plc L c : Int)) (ud F0 X X zxx) (w3.setCell ⟨gr, X, none⟩ (.int .i64 zxx)).drew from htsB.out)
                  generalize (w3.setCell ⟨gr, X, none⟩ (.int .i64 zxx)).drew = w4 at *
                  clear hgg hgQ hx1 hx2 hbr hlr hzz
                  obtain ⟨gr, cr, rr, hbr, hlr, -, -, er⟩ := htsB.out.row hX2
                  obtain ⟨gq, cq, rq, -⟩ := htsB.out.row hX1
                  have hgg := (mt_apart htsB.out.1 hX2 hX1 hxyN.symm rr rq).2
                  have hgQ : gr ≠ W.heap.size + 1 := by have := htsB.out.2.2; omega
                  obtain ⟨ec, ef⟩ := er Y hX2
                  rw [(ud_far F0 X X zxx Y Y (fun e => hxyN e.1.symm)).trans HF0.out.2.1] at ec
                  obtain ⟨hx1, -⟩ := htsB.out.2.1.cell (show a < k by omega)
                  obtain ⟨hx2, -⟩ := htsB.out.2.1.cell el2
                  rw [hPa] at hx1
                  rw [hPb] at hx2
                  have htsC := Lib.hid (htsB.out.dr.put (f' := (ud (ud F0 X X zxx) Y Y zyy)) hX2 hX2 hbr rr (ud_at _ _ _ _) (ud_far _ _ _ _))
                  have hzz : zyy - 1 + 1 = zyy := by omega
                  clear rq er htsB
                  try simp only [List.cons_append, List.nil_append, List.append_eq]
                  refine wp_region_held_drew (S := (fun w' => w'.cell? ⟨W.heap.size + 1, a, none⟩ = some (.int .i64 (X : Int)) ∧ w'.cell? ⟨W.heap.size + 1, bb, none⟩ = some (.int .i64 (Y : Int)) ∧ w'.cell? ⟨g, Y, none⟩ = some (.slice (some ⟨gr, 0, none⟩) i cr))) (by kernel_rfl) ?_ (fun hHeld0 => ?_)
                  · (try dsimp only); go_keep
                  refine wpAnyH_take (i := 0) (oi := { dst := some 125, op := Go.Op.move (Go.Operand.tmp 11), type := 67, pos := "l12_count.go:73", after := #[], guard := none }) (v := ?_) rfl (by kernel_rfl) (by kernel_rfl) (by kernel_rfl) (fun _ _ _ h => h) (Or.inl ⟨by rfl, ?_⟩) (by assumption) ?_
                  rotate_left
                  · (intro w hSw; (try dsimp only at hSw); go_simp; try with_reducible rfl)
                  try simp only [Act.put, List.setIfInBounds_toArray, List.set_cons_zero, List.set_cons_succ]
                  refine wpAnyH_take (i := 1) (oi := { dst := some 126, op := Go.Op.move (Go.Operand.tmp 7), type := 69, pos := "l12_count.go:73", after := #[], guard := none }) (v := ?_) rfl (by kernel_rfl) (by kernel_rfl) (by kernel_rfl) (fun _ _ _ h => h) (Or.inl ⟨by rfl, ?_⟩) (by assumption) ?_
                  rotate_left
                  · (intro w hSw; (try dsimp only at hSw); go_simp; try with_reducible rfl)
                  try simp only [Act.put, List.setIfInBounds_toArray, List.set_cons_zero, List.set_cons_succ]
                  refine wpAnyH_take (i := 2) (oi := { dst := some 127, op := Go.Op.move (Go.Operand.tmp 15), type := 3, pos := "l12_count.go:73", after := #[], guard := none }) (v := ?_) rfl (by kernel_rfl) (by kernel_rfl) (by kernel_rfl) (fun _ _ _ h => h) (Or.inl ⟨by rfl, ?_⟩) (by assumption) ?_
                  rotate_left
                  · (intro w hSw; (try dsimp only at hSw); go_simp; try with_reducible rfl)
                  try simp only [Act.put, List.setIfInBounds_toArray, List.set_cons_zero, List.set_cons_succ]
                  refine wpAnyH_take (i := 3) (oi := { dst := some 128, op := Go.Op.indexAddr 69 (Go.Operand.tmp 126) (Go.Operand.tmp 127), type := 0, pos := "l12_count.go:73", after := #[{ on := 1, ground := Go.Ground.data }, { on := 2, ground := Go.Ground.data }], guard := none }) (v := ?_) rfl (by kernel_rfl) (by kernel_rfl) (by kernel_rfl) (fun _ _ _ h => h) (Or.inl ⟨by rfl, ?_⟩) (by assumption) ?_
                  rotate_left
                  · (intro w hSw; (try dsimp only at hSw); go_simp; try with_reducible rfl)
                  try simp only [Act.put, List.setIfInBounds_toArray, List.set_cons_zero, List.set_cons_succ]
                  refine wpAnyH_take (i := 4) (oi := { dst := some 129, op := Go.Op.load 3 (Go.Operand.tmp 128), type := 3, pos := "l12_count.go:73", after := #[{ on := 3, ground := Go.Ground.data }], guard := none }) (v := ?_) rfl (by kernel_rfl) (by kernel_rfl) (by kernel_rfl) (fun _ _ _ h => h) (Or.inl ⟨by rfl, ?_⟩) (by assumption) ?_
                  rotate_left
                  · (intro w hSw; (try dsimp only at hSw); go_simp; try with_reducible rfl)
                  try simp only [Act.put, List.setIfInBounds_toArray, List.set_cons_zero, List.set_cons_succ]
                  refine wpAnyH_take (i := 5) (oi := { dst := some 130, op := Go.Op.indexAddr 67 (Go.Operand.tmp 125) (Go.Operand.tmp 129), type := 0, pos := "l12_count.go:73", after := #[{ on := 0, ground := Go.Ground.data }, { on := 4, ground := Go.Ground.data }], guard := none }) (v := ?_) rfl (by kernel_rfl) (by kernel_rfl) (by kernel_rfl) (fun _ _ _ h => h) (Or.inl ⟨by rfl, ?_⟩) (by assumption) ?_
                  rotate_left
                  · (intro w hSw; (try dsimp only at hSw); go_simp; try with_reducible rfl)
                  try simp only [Act.put, List.setIfInBounds_toArray, List.set_cons_zero, List.set_cons_succ]
                  refine wpAnyH_take (i := 6) (oi := { dst := some 131, op := Go.Op.load 69 (Go.Operand.tmp 130), type := 69, pos := "l12_count.go:73", after := #[{ on := 5, ground := Go.Ground.data }], guard := none }) (v := ?_) rfl (by kernel_rfl) (by kernel_rfl) (by kernel_rfl) (fun _ _ _ h => h) (Or.inl ⟨by rfl, ?_⟩) (by assumption) ?_
                  rotate_left
                  · (intro w hSw; (try dsimp only at hSw); go_simp; try with_reducible rfl)
                  try simp only [Act.put, List.setIfInBounds_toArray, List.set_cons_zero, List.set_cons_succ]
                  refine wpAnyH_take (i := 7) (oi := { dst := some 132, op := Go.Op.move (Go.Operand.tmp 7), type := 69, pos := "l12_count.go:73", after := #[], guard := none }) (v := ?_) rfl (by kernel_rfl) (by kernel_rfl) (by kernel_rfl) (fun _ _ _ h => h) (Or.inl ⟨by rfl, ?_⟩) (by assumption) ?_
                  rotate_left
                  · (intro w hSw; (try dsimp only at hSw); go_simp; try with_reducible rfl)
                  try simp only [Act.put, List.setIfInBounds_toArray, List.set_cons_zero, List.set_cons_succ]
                  refine wpAnyH_take (i := 8) (oi := { dst := some 133, op := Go.Op.move (Go.Operand.tmp 15), type := 3, pos := "l12_count.go:73", after := #[], guard := none }) (v := ?_) rfl (by kernel_rfl) (by kernel_rfl) (by kernel_rfl) (fun _ _ _ h => h) (Or.inl ⟨by rfl, ?_⟩) (by assumption) ?_
                  rotate_left
                  · (intro w hSw; (try dsimp only at hSw); go_simp; try with_reducible rfl)
                  try simp only [Act.put, List.setIfInBounds_toArray, List.set_cons_zero, List.set_cons_succ]
                  refine wpAnyH_take (i := 9) (oi := { dst := some 134, op := Go.Op.indexAddr 69 (Go.Operand.tmp 132) (Go.Operand.tmp 133), type := 0, pos := "l12_count.go:73", after := #[{ on := 7, ground := Go.Ground.data }, { on := 8, ground := Go.Ground.data }], guard := none }) (v := ?_) rfl (by kernel_rfl) (by kernel_rfl) (by kernel_rfl) (fun _ _ _ h => h) (Or.inl ⟨by rfl, ?_⟩) (by assumption) ?_
                  rotate_left
                  · (intro w hSw; (try dsimp only at hSw); go_simp; try with_reducible rfl)
                  try simp only [Act.put, List.setIfInBounds_toArray, List.set_cons_zero, List.set_cons_succ]
                  refine wpAnyH_take (i := 10) (oi := { dst := some 135, op := Go.Op.load 3 (Go.Operand.tmp 134), type := 3, pos := "l12_count.go:73", after := #[{ on := 9, ground := Go.Ground.data }], guard := none }) (v := ?_) rfl (by kernel_rfl) (by kernel_rfl) (by kernel_rfl) (fun _ _ _ h => h) (Or.inl ⟨by rfl, ?_⟩) (by assumption) ?_
                  rotate_left
                  · (intro w hSw; (try dsimp only at hSw); go_simp; try with_reducible rfl)
                  try simp only [Act.put, List.setIfInBounds_toArray, List.set_cons_zero, List.set_cons_succ]
                  refine wpAnyH_take (i := 11) (oi := { dst := some 136, op := Go.Op.move (Go.Operand.tmp 11), type := 67, pos := "l12_count.go:73", after := #[], guard := none }) (v := ?_) rfl (by kernel_rfl) (by kernel_rfl) (by kernel_rfl) (fun _ _ _ h => h) (Or.inl ⟨by rfl, ?_⟩) (by assumption) ?_
                  rotate_left
                  · (intro w hSw; (try dsimp only at hSw); go_simp; try with_reducible rfl)
                  try simp only [Act.put, List.setIfInBounds_toArray, List.set_cons_zero, List.set_cons_succ]
                  refine wpAnyH_take (i := 12) (oi := { dst := some 137, op := Go.Op.move (Go.Operand.tmp 7), type := 69, pos := "l12_count.go:73", after := #[], guard := none }) (v := ?_) rfl (by kernel_rfl) (by kernel_rfl) (by kernel_rfl) (fun _ _ _ h => h) (Or.inl ⟨by rfl, ?_⟩) (by assumption) ?_
                  rotate_left
                  · (intro w hSw; (try dsimp only at hSw); go_simp; try with_reducible rfl)
                  try simp only [Act.put, List.setIfInBounds_toArray, List.set_cons_zero, List.set_cons_succ]
                  refine wpAnyH_take (i := 13) (oi := { dst := some 138, op := Go.Op.move (Go.Operand.tmp 15), type := 3, pos := "l12_count.go:73", after := #[], guard := none }) (v := ?_) rfl (by kernel_rfl) (by kernel_rfl) (by kernel_rfl) (fun _ _ _ h => h) (Or.inl ⟨by rfl, ?_⟩) (by assumption) ?_
                  rotate_left
                  · (intro w hSw; (try dsimp only at hSw); go_simp; try with_reducible rfl)
                  try simp only [Act.put, List.setIfInBounds_toArray, List.set_cons_zero, List.set_cons_succ]
                  refine wpAnyH_take (i := 14) (oi := { dst := some 139, op := Go.Op.indexAddr 69 (Go.Operand.tmp 137) (Go.Operand.tmp 138), type := 0, pos := "l12_count.go:73", after := #[{ on := 12, ground := Go.Ground.data }, { on := 13, ground := Go.Ground.data }], guard := none }) (v := ?_) rfl (by kernel_rfl) (by kernel_rfl) (by kernel_rfl) (fun _ _ _ h => h) (Or.inl ⟨by rfl, ?_⟩) (by assumption) ?_
                  rotate_left
                  · (intro w hSw; (try dsimp only at hSw); go_simp; try with_reducible rfl)
                  try simp only [Act.put, List.setIfInBounds_toArray, List.set_cons_zero, List.set_cons_succ]
                  refine wpAnyH_take (i := 15) (oi := { dst := some 140, op := Go.Op.load 3 (Go.Operand.tmp 139), type := 3, pos := "l12_count.go:73", after := #[{ on := 14, ground := Go.Ground.data }], guard := none }) (v := ?_) rfl (by kernel_rfl) (by kernel_rfl) (by kernel_rfl) (fun _ _ _ h => h) (Or.inl ⟨by rfl, ?_⟩) (by assumption) ?_
                  rotate_left
                  · (intro w hSw; (try dsimp only at hSw); go_simp; try with_reducible rfl)
                  try simp only [Act.put, List.setIfInBounds_toArray, List.set_cons_zero, List.set_cons_succ]
                  refine wpAnyH_take (i := 16) (oi := { dst := some 141, op := Go.Op.indexAddr 67 (Go.Operand.tmp 136) (Go.Operand.tmp 140), type := 0, pos := "l12_count.go:73", after := #[{ on := 11, ground := Go.Ground.data }, { on := 15, ground := Go.Ground.data }], guard := none }) (v := ?_) rfl (by kernel_rfl) (by kernel_rfl) (by kernel_rfl) (fun _ _ _ h => h) (Or.inl ⟨by rfl, ?_⟩) (by assumption) ?_
                  rotate_left
                  · (intro w hSw; (try dsimp only at hSw); go_simp; try with_reducible rfl)
                  try simp only [Act.put, List.setIfInBounds_toArray, List.set_cons_zero, List.set_cons_succ]
                  refine wpAnyH_take (i := 17) (oi := { dst := some 142, op := Go.Op.load 69 (Go.Operand.tmp 141), type := 69, pos := "l12_count.go:73", after := #[{ on := 16, ground := Go.Ground.data }], guard := none }) (v := ?_) rfl (by kernel_rfl) (by kernel_rfl) (by kernel_rfl) (fun _ _ _ h => h) (Or.inl ⟨by rfl, ?_⟩) (by assumption) ?_
                  rotate_left
                  · (intro w hSw; (try dsimp only at hSw); go_simp; try with_reducible rfl)
                  try simp only [Act.put, List.setIfInBounds_toArray, List.set_cons_zero, List.set_cons_succ]
                  refine wpAnyH_take (i := 18) (oi := { dst := some 143, op := Go.Op.move (Go.Operand.tmp 7), type := 69, pos := "l12_count.go:73", after := #[], guard := none }) (v := ?_) rfl (by kernel_rfl) (by kernel_rfl) (by kernel_rfl) (fun _ _ _ h => h) (Or.inl ⟨by rfl, ?_⟩) (by assumption) ?_
                  rotate_left
                  · (intro w hSw; (try dsimp only at hSw); go_simp; try with_reducible rfl)
                  try simp only [Act.put, List.setIfInBounds_toArray, List.set_cons_zero, List.set_cons_succ]
                  refine wpAnyH_take (i := 19) (oi := { dst := some 144, op := Go.Op.move (Go.Operand.tmp 15), type := 3, pos := "l12_count.go:73", after := #[], guard := none }) (v := ?_) rfl (by kernel_rfl) (by kernel_rfl) (by kernel_rfl) (fun _ _ _ h => h) (Or.inl ⟨by rfl, ?_⟩) (by assumption) ?_
                  rotate_left
                  · (intro w hSw; (try dsimp only at hSw); go_simp; try with_reducible rfl)
                  try simp only [Act.put, List.setIfInBounds_toArray, List.set_cons_zero, List.set_cons_succ]
                  refine wpAnyH_take (i := 20) (oi := { dst := some 145, op := Go.Op.indexAddr 69 (Go.Operand.tmp 143) (Go.Operand.tmp 144), type := 0, pos := "l12_count.go:73", after := #[{ on := 18, ground := Go.Ground.data }, { on := 19, ground := Go.Ground.data }], guard := none }) (v := ?_) rfl (by kernel_rfl) (by kernel_rfl) (by kernel_rfl) (fun _ _ _ h => h) (Or.inl ⟨by rfl, ?_⟩) (by assumption) ?_
                  rotate_left
                  · (intro w hSw; (try dsimp only at hSw); go_simp; try with_reducible rfl)
                  try simp only [Act.put, List.setIfInBounds_toArray, List.set_cons_zero, List.set_cons_succ]
                  refine wpAnyH_take (i := 21) (oi := { dst := some 146, op := Go.Op.load 3 (Go.Operand.tmp 145), type := 3, pos := "l12_count.go:73", after := #[{ on := 20, ground := Go.Ground.data }], guard := none }) (v := ?_) rfl (by kernel_rfl) (by kernel_rfl) (by kernel_rfl) (fun _ _ _ h => h) (Or.inl ⟨by rfl, ?_⟩) (by assumption) ?_
                  rotate_left
                  · (intro w hSw; (try dsimp only at hSw); go_simp; try with_reducible rfl)
                  try simp only [Act.put, List.setIfInBounds_toArray, List.set_cons_zero, List.set_cons_succ]
                  refine wpAnyH_take (i := 22) (oi := { dst := some 147, op := Go.Op.indexAddr 69 (Go.Operand.tmp 142) (Go.Operand.tmp 146), type := 0, pos := "l12_count.go:73", after := #[{ on := 17, ground := Go.Ground.data }, { on := 21, ground := Go.Ground.data }], guard := none }) (v := ?_) rfl (by kernel_rfl) (by kernel_rfl) (by kernel_rfl) (fun _ _ _ h => h) (Or.inl ⟨by rfl, ?_⟩) (by assumption) ?_
                  rotate_left
                  · (intro w hSw; (try dsimp only at hSw); go_simp; try with_reducible rfl)
                  try simp only [Act.put, List.setIfInBounds_toArray, List.set_cons_zero, List.set_cons_succ]
                  refine wpAnyH_ready (rs := [23]) (by kernel_rfl) (by simp) ?_
                  refine AllReadyH.cons (o := { dst := some 148, op := Go.Op.load 3 (Go.Operand.tmp 147), type := 3, pos := "l12_count.go:73", after := #[{ on := 22, ground := Go.Ground.data }], guard := none }) rfl (fun K23 hK23 => ?_) AllReadyH.nil
                  go_simp
                  refine hK23.out _ _ ?_ (fun hHeld1 => ?_)
                  · (try dsimp only); go_keep
                  clear hK23 K23 hHeld0
                  try simp only [Act.put, List.setIfInBounds_toArray, List.set_cons_zero, List.set_cons_succ]
                  refine wpAnyH_take (i := 24) (oi := { dst := some 149, op := Go.Op.binOp Go.BinOp.add 3 (Go.Operand.tmp 148) (Go.Operand.const (Go.Value.int Go.IntKind.i64 1)) 3, type := 3, pos := "l12_count.go:73", after := #[{ on := 23, ground := Go.Ground.data }], guard := none }) (v := ?_) rfl (by kernel_rfl) (by kernel_rfl) (by kernel_rfl) (fun _ _ _ h => h) (Or.inl ⟨by rfl, ?_⟩) (by assumption) ?_
                  rotate_left
                  · (intro w hSw; (try dsimp only at hSw); go_simp; try with_reducible rfl)
                  try simp only [Act.put, List.setIfInBounds_toArray, List.set_cons_zero, List.set_cons_succ]
                  refine wpAnyH_take (i := 25) (oi := { dst := some 150, op := Go.Op.indexAddr 69 (Go.Operand.tmp 131) (Go.Operand.tmp 135), type := 0, pos := "l12_count.go:73", after := #[{ on := 6, ground := Go.Ground.data }, { on := 10, ground := Go.Ground.data }, { on := 0, ground := Go.Ground.phase }, { on := 1, ground := Go.Ground.phase }, { on := 2, ground := Go.Ground.phase }, { on := 3, ground := Go.Ground.phase }, { on := 4, ground := Go.Ground.phase }, { on := 5, ground := Go.Ground.phase }, { on := 6, ground := Go.Ground.phase }, { on := 7, ground := Go.Ground.phase }, { on := 8, ground := Go.Ground.phase }, { on := 9, ground := Go.Ground.phase }, { on := 10, ground := Go.Ground.phase }, { on := 11, ground := Go.Ground.phase }, { on := 12, ground := Go.Ground.phase }, { on := 13, ground := Go.Ground.phase }, { on := 14, ground := Go.Ground.phase }, { on := 15, ground := Go.Ground.phase }, { on := 16, ground := Go.Ground.phase }, { on := 17, ground := Go.Ground.phase }, { on := 18, ground := Go.Ground.phase }, { on := 19, ground := Go.Ground.phase }, { on := 20, ground := Go.Ground.phase }, { on := 21, ground := Go.Ground.phase }, { on := 22, ground := Go.Ground.phase }, { on := 23, ground := Go.Ground.phase }, { on := 24, ground := Go.Ground.phase }], guard := none }) (v := ?_) rfl (by kernel_rfl) (by kernel_rfl) (by kernel_rfl) (fun _ _ _ h => h) (Or.inl ⟨by rfl, ?_⟩) (by assumption) ?_
                  rotate_left
                  · (intro w hSw; (try dsimp only at hSw); go_simp; try with_reducible rfl)
                  try simp only [Act.put, List.setIfInBounds_toArray, List.set_cons_zero, List.set_cons_succ]
                  refine wpAnyH_ready (rs := [26]) (by kernel_rfl) (by simp) ?_
                  refine AllReadyH.cons (o := { dst := none, op := Go.Op.store 3 (Go.Operand.tmp 150) (Go.Operand.tmp 149), type := 0, pos := "l12_count.go:73", after := #[{ on := 25, ground := Go.Ground.data }, { on := 24, ground := Go.Ground.data }, { on := 0, ground := Go.Ground.phase }, { on := 1, ground := Go.Ground.phase }, { on := 2, ground := Go.Ground.phase }, { on := 3, ground := Go.Ground.phase }, { on := 4, ground := Go.Ground.phase }, { on := 5, ground := Go.Ground.phase }, { on := 6, ground := Go.Ground.phase }, { on := 7, ground := Go.Ground.phase }, { on := 8, ground := Go.Ground.phase }, { on := 9, ground := Go.Ground.phase }, { on := 10, ground := Go.Ground.phase }, { on := 11, ground := Go.Ground.phase }, { on := 12, ground := Go.Ground.phase }, { on := 13, ground := Go.Ground.phase }, { on := 14, ground := Go.Ground.phase }, { on := 15, ground := Go.Ground.phase }, { on := 16, ground := Go.Ground.phase }, { on := 17, ground := Go.Ground.phase }, { on := 18, ground := Go.Ground.phase }, { on := 19, ground := Go.Ground.phase }, { on := 20, ground := Go.Ground.phase }, { on := 21, ground := Go.Ground.phase }, { on := 22, ground := Go.Ground.phase }, { on := 23, ground := Go.Ground.phase }, { on := 24, ground := Go.Ground.phase }], guard := none }) rfl (fun K26 hK26 => ?_) AllReadyH.nil
                  go_simp
                  refine hK26.out _ _ ?_ (fun hHeld2 => ?_)
                  · (try dsimp only); exact ⟨(World.cell?_setCell_other _ _ _ _ (by simp; try omega)).trans hx1, (World.cell?_setCell_other _ _ _ _ (by simp; try omega)).trans hx2, (World.cell?_setCell_other _ _ _ _ (by simp; try omega)).trans rr⟩
                  clear hK26 K26 hHeld1
                  try simp only [Act.put, List.setIfInBounds_toArray, List.set_cons_zero, List.set_cons_succ]
                  refine wpAnyH_done (by kernel_rfl) ?_ _
                  go_wp2_with fail
                  have htsC := Lib.hid (show TS W x y b (W.heap.size + 1) k g i c11 (mtr k fun c => (plc L c : Int)) (ud (ud F0 X X zxx) Y Y zyy) (w4.setCell ⟨gr, Y, none⟩ (.int .i64 zyy)).drew from htsC.out)
                  generalize (w4.setCell ⟨gr, Y, none⟩ (.int .i64 zyy)).drew = w5 at *
                  clear hgg hgQ hx1 hx2 hbr hlr hzz
                  obtain ⟨gr, cr, rr, hbr, hlr, -, -, er⟩ := htsC.out.row hX1
                  obtain ⟨gq, cq, rq, -⟩ := htsC.out.row hX2
                  have hgg := (mt_apart htsC.out.1 hX1 hX2 hxyN rr rq).2
                  have hgQ : gr ≠ W.heap.size + 1 := by have := htsC.out.2.2; omega
                  obtain ⟨ec, ef⟩ := er Y hX2
                  rw [((ud_far _ Y Y zyy X Y (fun e => hxyN e.1)).trans (ud_far F0 X X zxx X Y (fun e => hxyN e.2.symm))).trans HF0.out.2.2.1] at ec
                  obtain ⟨hx1, -⟩ := htsC.out.2.1.cell (show a < k by omega)
                  obtain ⟨hx2, -⟩ := htsC.out.2.1.cell el2
                  rw [hPa] at hx1
                  rw [hPb] at hx2
                  have htsD := Lib.hid (htsC.out.dr.put (f' := (ud (ud (ud F0 X X zxx) Y Y zyy) X Y zxy)) hX1 hX2 hbr rr (ud_at _ _ _ _) (ud_far _ _ _ _))
                  have hzz : zxy + 1 - 1 = zxy := by omega
                  clear rq er htsC
                  try simp only [List.cons_append, List.nil_append, List.append_eq]
                  refine wp_region_held_drew (S := (fun w' => w'.cell? ⟨W.heap.size + 1, a, none⟩ = some (.int .i64 (X : Int)) ∧ w'.cell? ⟨W.heap.size + 1, bb, none⟩ = some (.int .i64 (Y : Int)) ∧ w'.cell? ⟨g, X, none⟩ = some (.slice (some ⟨gr, 0, none⟩) i cr))) (by kernel_rfl) ?_ (fun hHeld0 => ?_)
                  · (try dsimp only); go_keep
                  refine wpAnyH_take (i := 0) (oi := { dst := some 151, op := Go.Op.move (Go.Operand.tmp 11), type := 67, pos := "l12_count.go:74", after := #[], guard := none }) (v := ?_) rfl (by kernel_rfl) (by kernel_rfl) (by kernel_rfl) (fun _ _ _ h => h) (Or.inl ⟨by rfl, ?_⟩) (by assumption) ?_
                  rotate_left
                  · (intro w hSw; (try dsimp only at hSw); go_simp; try with_reducible rfl)
                  try simp only [Act.put, List.setIfInBounds_toArray, List.set_cons_zero, List.set_cons_succ]
                  refine wpAnyH_take (i := 1) (oi := { dst := some 152, op := Go.Op.move (Go.Operand.tmp 7), type := 69, pos := "l12_count.go:74", after := #[], guard := none }) (v := ?_) rfl (by kernel_rfl) (by kernel_rfl) (by kernel_rfl) (fun _ _ _ h => h) (Or.inl ⟨by rfl, ?_⟩) (by assumption) ?_
                  rotate_left
                  · (intro w hSw; (try dsimp only at hSw); go_simp; try with_reducible rfl)
                  try simp only [Act.put, List.setIfInBounds_toArray, List.set_cons_zero, List.set_cons_succ]
                  refine wpAnyH_take (i := 2) (oi := { dst := some 153, op := Go.Op.move (Go.Operand.tmp 14), type := 3, pos := "l12_count.go:74", after := #[], guard := none }) (v := ?_) rfl (by kernel_rfl) (by kernel_rfl) (by kernel_rfl) (fun _ _ _ h => h) (Or.inl ⟨by rfl, ?_⟩) (by assumption) ?_
                  rotate_left
                  · (intro w hSw; (try dsimp only at hSw); go_simp; try with_reducible rfl)
                  try simp only [Act.put, List.setIfInBounds_toArray, List.set_cons_zero, List.set_cons_succ]
                  refine wpAnyH_take (i := 3) (oi := { dst := some 154, op := Go.Op.indexAddr 69 (Go.Operand.tmp 152) (Go.Operand.tmp 153), type := 0, pos := "l12_count.go:74", after := #[{ on := 1, ground := Go.Ground.data }, { on := 2, ground := Go.Ground.data }], guard := none }) (v := ?_) rfl (by kernel_rfl) (by kernel_rfl) (by kernel_rfl) (fun _ _ _ h => h) (Or.inl ⟨by rfl, ?_⟩) (by assumption) ?_
                  rotate_left
                  · (intro w hSw; (try dsimp only at hSw); go_simp; try with_reducible rfl)
                  try simp only [Act.put, List.setIfInBounds_toArray, List.set_cons_zero, List.set_cons_succ]
                  refine wpAnyH_take (i := 4) (oi := { dst := some 155, op := Go.Op.load 3 (Go.Operand.tmp 154), type := 3, pos := "l12_count.go:74", after := #[{ on := 3, ground := Go.Ground.data }], guard := none }) (v := ?_) rfl (by kernel_rfl) (by kernel_rfl) (by kernel_rfl) (fun _ _ _ h => h) (Or.inl ⟨by rfl, ?_⟩) (by assumption) ?_
                  rotate_left
                  · (intro w hSw; (try dsimp only at hSw); go_simp; try with_reducible rfl)
                  try simp only [Act.put, List.setIfInBounds_toArray, List.set_cons_zero, List.set_cons_succ]
                  refine wpAnyH_take (i := 5) (oi := { dst := some 156, op := Go.Op.indexAddr 67 (Go.Operand.tmp 151) (Go.Operand.tmp 155), type := 0, pos := "l12_count.go:74", after := #[{ on := 0, ground := Go.Ground.data }, { on := 4, ground := Go.Ground.data }], guard := none }) (v := ?_) rfl (by kernel_rfl) (by kernel_rfl) (by kernel_rfl) (fun _ _ _ h => h) (Or.inl ⟨by rfl, ?_⟩) (by assumption) ?_
                  rotate_left
                  · (intro w hSw; (try dsimp only at hSw); go_simp; try with_reducible rfl)
                  try simp only [Act.put, List.setIfInBounds_toArray, List.set_cons_zero, List.set_cons_succ]
                  refine wpAnyH_take (i := 6) (oi := { dst := some 157, op := Go.Op.load 69 (Go.Operand.tmp 156), type := 69, pos := "l12_count.go:74", after := #[{ on := 5, ground := Go.Ground.data }], guard := none }) (v := ?_) rfl (by kernel_rfl) (by kernel_rfl) (by kernel_rfl) (fun _ _ _ h => h) (Or.inl ⟨by rfl, ?_⟩) (by assumption) ?_
                  rotate_left
                  · (intro w hSw; (try dsimp only at hSw); go_simp; try with_reducible rfl)
                  try simp only [Act.put, List.setIfInBounds_toArray, List.set_cons_zero, List.set_cons_succ]
                  refine wpAnyH_take (i := 7) (oi := { dst := some 158, op := Go.Op.move (Go.Operand.tmp 7), type := 69, pos := "l12_count.go:74", after := #[], guard := none }) (v := ?_) rfl (by kernel_rfl) (by kernel_rfl) (by kernel_rfl) (fun _ _ _ h => h) (Or.inl ⟨by rfl, ?_⟩) (by assumption) ?_
                  rotate_left
                  · (intro w hSw; (try dsimp only at hSw); go_simp; try with_reducible rfl)
                  try simp only [Act.put, List.setIfInBounds_toArray, List.set_cons_zero, List.set_cons_succ]
                  refine wpAnyH_take (i := 8) (oi := { dst := some 159, op := Go.Op.move (Go.Operand.tmp 15), type := 3, pos := "l12_count.go:74", after := #[], guard := none }) (v := ?_) rfl (by kernel_rfl) (by kernel_rfl) (by kernel_rfl) (fun _ _ _ h => h) (Or.inl ⟨by rfl, ?_⟩) (by assumption) ?_
                  rotate_left
                  · (intro w hSw; (try dsimp only at hSw); go_simp; try with_reducible rfl)
                  try simp only [Act.put, List.setIfInBounds_toArray, List.set_cons_zero, List.set_cons_succ]
                  refine wpAnyH_take (i := 9) (oi := { dst := some 160, op := Go.Op.indexAddr 69 (Go.Operand.tmp 158) (Go.Operand.tmp 159), type := 0, pos := "l12_count.go:74", after := #[{ on := 7, ground := Go.Ground.data }, { on := 8, ground := Go.Ground.data }], guard := none }) (v := ?_) rfl (by kernel_rfl) (by kernel_rfl) (by kernel_rfl) (fun _ _ _ h => h) (Or.inl ⟨by rfl, ?_⟩) (by assumption) ?_
                  rotate_left
                  · (intro w hSw; (try dsimp only at hSw); go_simp; try with_reducible rfl)
                  try simp only [Act.put, List.setIfInBounds_toArray, List.set_cons_zero, List.set_cons_succ]
                  refine wpAnyH_take (i := 10) (oi := { dst := some 161, op := Go.Op.load 3 (Go.Operand.tmp 160), type := 3, pos := "l12_count.go:74", after := #[{ on := 9, ground := Go.Ground.data }], guard := none }) (v := ?_) rfl (by kernel_rfl) (by kernel_rfl) (by kernel_rfl) (fun _ _ _ h => h) (Or.inl ⟨by rfl, ?_⟩) (by assumption) ?_
                  rotate_left
                  · (intro w hSw; (try dsimp only at hSw); go_simp; try with_reducible rfl)
                  try simp only [Act.put, List.setIfInBounds_toArray, List.set_cons_zero, List.set_cons_succ]
                  refine wpAnyH_take (i := 11) (oi := { dst := some 162, op := Go.Op.move (Go.Operand.tmp 11), type := 67, pos := "l12_count.go:74", after := #[], guard := none }) (v := ?_) rfl (by kernel_rfl) (by kernel_rfl) (by kernel_rfl) (fun _ _ _ h => h) (Or.inl ⟨by rfl, ?_⟩) (by assumption) ?_
                  rotate_left
                  · (intro w hSw; (try dsimp only at hSw); go_simp; try with_reducible rfl)
                  try simp only [Act.put, List.setIfInBounds_toArray, List.set_cons_zero, List.set_cons_succ]
                  refine wpAnyH_take (i := 12) (oi := { dst := some 163, op := Go.Op.move (Go.Operand.tmp 7), type := 69, pos := "l12_count.go:74", after := #[], guard := none }) (v := ?_) rfl (by kernel_rfl) (by kernel_rfl) (by kernel_rfl) (fun _ _ _ h => h) (Or.inl ⟨by rfl, ?_⟩) (by assumption) ?_
                  rotate_left
                  · (intro w hSw; (try dsimp only at hSw); go_simp; try with_reducible rfl)
                  try simp only [Act.put, List.setIfInBounds_toArray, List.set_cons_zero, List.set_cons_succ]
                  refine wpAnyH_take (i := 13) (oi := { dst := some 164, op := Go.Op.move (Go.Operand.tmp 14), type := 3, pos := "l12_count.go:74", after := #[], guard := none }) (v := ?_) rfl (by kernel_rfl) (by kernel_rfl) (by kernel_rfl) (fun _ _ _ h => h) (Or.inl ⟨by rfl, ?_⟩) (by assumption) ?_
                  rotate_left
                  · (intro w hSw; (try dsimp only at hSw); go_simp; try with_reducible rfl)
                  try simp only [Act.put, List.setIfInBounds_toArray, List.set_cons_zero, List.set_cons_succ]
                  refine wpAnyH_take (i := 14) (oi := { dst := some 165, op := Go.Op.indexAddr 69 (Go.Operand.tmp 163) (Go.Operand.tmp 164), type := 0, pos := "l12_count.go:74", after := #[{ on := 12, ground := Go.Ground.data }, { on := 13, ground := Go.Ground.data }], guard := none }) (v := ?_) rfl (by kernel_rfl) (by kernel_rfl) (by kernel_rfl) (fun _ _ _ h => h) (Or.inl ⟨by rfl, ?_⟩) (by assumption) ?_
                  rotate_left
                  · (intro w hSw; (try dsimp only at hSw); go_simp; try with_reducible rfl)
                  try simp only [Act.put, List.setIfInBounds_toArray, List.set_cons_zero, List.set_cons_succ]
                  refine wpAnyH_take (i := 15) (oi := { dst := some 166, op := Go.Op.load 3 (Go.Operand.tmp 165), type := 3, pos := "l12_count.go:74", after := #[{ on := 14, ground := Go.Ground.data }], guard := none }) (v := ?_) rfl (by kernel_rfl) (by kernel_rfl) (by kernel_rfl) (fun _ _ _ h => h) (Or.inl ⟨by rfl, ?_⟩) (by assumption) ?_
                  rotate_left
                  · (intro w hSw; (try dsimp only at hSw); go_simp; try with_reducible rfl)
                  try simp only [Act.put, List.setIfInBounds_toArray, List.set_cons_zero, List.set_cons_succ]
                  refine wpAnyH_take (i := 16) (oi := { dst := some 167, op := Go.Op.indexAddr 67 (Go.Operand.tmp 162) (Go.Operand.tmp 166), type := 0, pos := "l12_count.go:74", after := #[{ on := 11, ground := Go.Ground.data }, { on := 15, ground := Go.Ground.data }], guard := none }) (v := ?_) rfl (by kernel_rfl) (by kernel_rfl) (by kernel_rfl) (fun _ _ _ h => h) (Or.inl ⟨by rfl, ?_⟩) (by assumption) ?_
                  rotate_left
                  · (intro w hSw; (try dsimp only at hSw); go_simp; try with_reducible rfl)
                  try simp only [Act.put, List.setIfInBounds_toArray, List.set_cons_zero, List.set_cons_succ]
                  refine wpAnyH_take (i := 17) (oi := { dst := some 168, op := Go.Op.load 69 (Go.Operand.tmp 167), type := 69, pos := "l12_count.go:74", after := #[{ on := 16, ground := Go.Ground.data }], guard := none }) (v := ?_) rfl (by kernel_rfl) (by kernel_rfl) (by kernel_rfl) (fun _ _ _ h => h) (Or.inl ⟨by rfl, ?_⟩) (by assumption) ?_
                  rotate_left
                  · (intro w hSw; (try dsimp only at hSw); go_simp; try with_reducible rfl)
                  try simp only [Act.put, List.setIfInBounds_toArray, List.set_cons_zero, List.set_cons_succ]
                  refine wpAnyH_take (i := 18) (oi := { dst := some 169, op := Go.Op.move (Go.Operand.tmp 7), type := 69, pos := "l12_count.go:74", after := #[], guard := none }) (v := ?_) rfl (by kernel_rfl) (by kernel_rfl) (by kernel_rfl) (fun _ _ _ h => h) (Or.inl ⟨by rfl, ?_⟩) (by assumption) ?_
                  rotate_left
                  · (intro w hSw; (try dsimp only at hSw); go_simp; try with_reducible rfl)
                  try simp only [Act.put, List.setIfInBounds_toArray, List.set_cons_zero, List.set_cons_succ]
                  refine wpAnyH_take (i := 19) (oi := { dst := some 170, op := Go.Op.move (Go.Operand.tmp 15), type := 3, pos := "l12_count.go:74", after := #[], guard := none }) (v := ?_) rfl (by kernel_rfl) (by kernel_rfl) (by kernel_rfl) (fun _ _ _ h => h) (Or.inl ⟨by rfl, ?_⟩) (by assumption) ?_
                  rotate_left
                  · (intro w hSw; (try dsimp only at hSw); go_simp; try with_reducible rfl)
                  try simp only [Act.put, List.setIfInBounds_toArray, List.set_cons_zero, List.set_cons_succ]
                  refine wpAnyH_take (i := 20) (oi := { dst := some 171, op := Go.Op.indexAddr 69 (Go.Operand.tmp 169) (Go.Operand.tmp 170), type := 0, pos := "l12_count.go:74", after := #[{ on := 18, ground := Go.Ground.data }, { on := 19, ground := Go.Ground.data }], guard := none }) (v := ?_) rfl (by kernel_rfl) (by kernel_rfl) (by kernel_rfl) (fun _ _ _ h => h) (Or.inl ⟨by rfl, ?_⟩) (by assumption) ?_
                  rotate_left
                  · (intro w hSw; (try dsimp only at hSw); go_simp; try with_reducible rfl)
                  try simp only [Act.put, List.setIfInBounds_toArray, List.set_cons_zero, List.set_cons_succ]
                  refine wpAnyH_take (i := 21) (oi := { dst := some 172, op := Go.Op.load 3 (Go.Operand.tmp 171), type := 3, pos := "l12_count.go:74", after := #[{ on := 20, ground := Go.Ground.data }], guard := none }) (v := ?_) rfl (by kernel_rfl) (by kernel_rfl) (by kernel_rfl) (fun _ _ _ h => h) (Or.inl ⟨by rfl, ?_⟩) (by assumption) ?_
                  rotate_left
                  · (intro w hSw; (try dsimp only at hSw); go_simp; try with_reducible rfl)
                  try simp only [Act.put, List.setIfInBounds_toArray, List.set_cons_zero, List.set_cons_succ]
                  refine wpAnyH_take (i := 22) (oi := { dst := some 173, op := Go.Op.indexAddr 69 (Go.Operand.tmp 168) (Go.Operand.tmp 172), type := 0, pos := "l12_count.go:74", after := #[{ on := 17, ground := Go.Ground.data }, { on := 21, ground := Go.Ground.data }], guard := none }) (v := ?_) rfl (by kernel_rfl) (by kernel_rfl) (by kernel_rfl) (fun _ _ _ h => h) (Or.inl ⟨by rfl, ?_⟩) (by assumption) ?_
                  rotate_left
                  · (intro w hSw; (try dsimp only at hSw); go_simp; try with_reducible rfl)
                  try simp only [Act.put, List.setIfInBounds_toArray, List.set_cons_zero, List.set_cons_succ]
                  refine wpAnyH_ready (rs := [23]) (by kernel_rfl) (by simp) ?_
                  refine AllReadyH.cons (o := { dst := some 174, op := Go.Op.load 3 (Go.Operand.tmp 173), type := 3, pos := "l12_count.go:74", after := #[{ on := 22, ground := Go.Ground.data }], guard := none }) rfl (fun K23 hK23 => ?_) AllReadyH.nil
                  go_simp
                  refine hK23.out _ _ ?_ (fun hHeld1 => ?_)
                  · (try dsimp only); go_keep
                  clear hK23 K23 hHeld0
                  try simp only [Act.put, List.setIfInBounds_toArray, List.set_cons_zero, List.set_cons_succ]
                  refine wpAnyH_take (i := 24) (oi := { dst := some 175, op := Go.Op.binOp Go.BinOp.sub 3 (Go.Operand.tmp 174) (Go.Operand.const (Go.Value.int Go.IntKind.i64 1)) 3, type := 3, pos := "l12_count.go:74", after := #[{ on := 23, ground := Go.Ground.data }], guard := none }) (v := ?_) rfl (by kernel_rfl) (by kernel_rfl) (by kernel_rfl) (fun _ _ _ h => h) (Or.inl ⟨by rfl, ?_⟩) (by assumption) ?_
                  rotate_left
                  · (intro w hSw; (try dsimp only at hSw); go_simp; try with_reducible rfl)
                  try simp only [Act.put, List.setIfInBounds_toArray, List.set_cons_zero, List.set_cons_succ]
                  refine wpAnyH_take (i := 25) (oi := { dst := some 176, op := Go.Op.indexAddr 69 (Go.Operand.tmp 157) (Go.Operand.tmp 161), type := 0, pos := "l12_count.go:74", after := #[{ on := 6, ground := Go.Ground.data }, { on := 10, ground := Go.Ground.data }, { on := 0, ground := Go.Ground.phase }, { on := 1, ground := Go.Ground.phase }, { on := 2, ground := Go.Ground.phase }, { on := 3, ground := Go.Ground.phase }, { on := 4, ground := Go.Ground.phase }, { on := 5, ground := Go.Ground.phase }, { on := 6, ground := Go.Ground.phase }, { on := 7, ground := Go.Ground.phase }, { on := 8, ground := Go.Ground.phase }, { on := 9, ground := Go.Ground.phase }, { on := 10, ground := Go.Ground.phase }, { on := 11, ground := Go.Ground.phase }, { on := 12, ground := Go.Ground.phase }, { on := 13, ground := Go.Ground.phase }, { on := 14, ground := Go.Ground.phase }, { on := 15, ground := Go.Ground.phase }, { on := 16, ground := Go.Ground.phase }, { on := 17, ground := Go.Ground.phase }, { on := 18, ground := Go.Ground.phase }, { on := 19, ground := Go.Ground.phase }, { on := 20, ground := Go.Ground.phase }, { on := 21, ground := Go.Ground.phase }, { on := 22, ground := Go.Ground.phase }, { on := 23, ground := Go.Ground.phase }, { on := 24, ground := Go.Ground.phase }], guard := none }) (v := ?_) rfl (by kernel_rfl) (by kernel_rfl) (by kernel_rfl) (fun _ _ _ h => h) (Or.inl ⟨by rfl, ?_⟩) (by assumption) ?_
                  rotate_left
                  · (intro w hSw; (try dsimp only at hSw); go_simp; try with_reducible rfl)
                  try simp only [Act.put, List.setIfInBounds_toArray, List.set_cons_zero, List.set_cons_succ]
                  refine wpAnyH_ready (rs := [26]) (by kernel_rfl) (by simp) ?_
                  refine AllReadyH.cons (o := { dst := none, op := Go.Op.store 3 (Go.Operand.tmp 176) (Go.Operand.tmp 175), type := 0, pos := "l12_count.go:74", after := #[{ on := 25, ground := Go.Ground.data }, { on := 24, ground := Go.Ground.data }, { on := 0, ground := Go.Ground.phase }, { on := 1, ground := Go.Ground.phase }, { on := 2, ground := Go.Ground.phase }, { on := 3, ground := Go.Ground.phase }, { on := 4, ground := Go.Ground.phase }, { on := 5, ground := Go.Ground.phase }, { on := 6, ground := Go.Ground.phase }, { on := 7, ground := Go.Ground.phase }, { on := 8, ground := Go.Ground.phase }, { on := 9, ground := Go.Ground.phase }, { on := 10, ground := Go.Ground.phase }, { on := 11, ground := Go.Ground.phase }, { on := 12, ground := Go.Ground.phase }, { on := 13, ground := Go.Ground.phase }, { on := 14, ground := Go.Ground.phase }, { on := 15, ground := Go.Ground.phase }, { on := 16, ground := Go.Ground.phase }, { on := 17, ground := Go.Ground.phase }, { on := 18, ground := Go.Ground.phase }, { on := 19, ground := Go.Ground.phase }, { on := 20, ground := Go.Ground.phase }, { on := 21, ground := Go.Ground.phase }, { on := 22, ground := Go.Ground.phase }, { on := 23, ground := Go.Ground.phase }, { on := 24, ground := Go.Ground.phase }], guard := none }) rfl (fun K26 hK26 => ?_) AllReadyH.nil
                  go_simp
                  refine hK26.out _ _ ?_ (fun hHeld2 => ?_)
                  · (try dsimp only); exact ⟨(World.cell?_setCell_other _ _ _ _ (by simp; try omega)).trans hx1, (World.cell?_setCell_other _ _ _ _ (by simp; try omega)).trans hx2, (World.cell?_setCell_other _ _ _ _ (by simp; try omega)).trans rr⟩
                  clear hK26 K26 hHeld1
                  try simp only [Act.put, List.setIfInBounds_toArray, List.set_cons_zero, List.set_cons_succ]
                  refine wpAnyH_done (by kernel_rfl) ?_ _
                  go_wp2_with fail
                  have htsD := Lib.hid (show TS W x y b (W.heap.size + 1) k g i c11 (mtr k fun c => (plc L c : Int)) (ud (ud (ud F0 X X zxx) Y Y zyy) X Y zxy) (w5.setCell ⟨gr, Y, none⟩ (.int .i64 zxy)).drew from htsD.out)
                  generalize (w5.setCell ⟨gr, Y, none⟩ (.int .i64 zxy)).drew = w6 at *
                  clear hgg hgQ hx1 hx2 hbr hlr hzz
                  obtain ⟨gr, cr, rr, hbr, hlr, -, -, er⟩ := htsD.out.row hX2
                  obtain ⟨gq, cq, rq, -⟩ := htsD.out.row hX1
                  have hgg := (mt_apart htsD.out.1 hX2 hX1 hxyN.symm rr rq).2
                  have hgQ : gr ≠ W.heap.size + 1 := by have := htsD.out.2.2; omega
                  obtain ⟨ec, ef⟩ := er X hX1
                  rw [(((ud_far _ X Y zxy Y X (fun e => hxyN e.1.symm)).trans (ud_far _ Y Y zyy Y X (fun e => hxyN e.2))).trans (ud_far F0 X X zxx Y X (fun e => hxyN e.1.symm))).trans HF0.out.2.2.2] at ec
                  obtain ⟨hx1, -⟩ := htsD.out.2.1.cell (show a < k by omega)
                  obtain ⟨hx2, -⟩ := htsD.out.2.1.cell el2
                  rw [hPa] at hx1
                  rw [hPb] at hx2
                  have htsE := Lib.hid (htsD.out.dr.put (f' := (ud (ud (ud (ud F0 X X zxx) Y Y zyy) X Y zxy) Y X zyx)) hX2 hX1 hbr rr (ud_at _ _ _ _) (ud_far _ _ _ _))
                  have hzz : zyx + 1 - 1 = zyx := by omega
                  clear rq er htsD
                  try simp only [List.cons_append, List.nil_append, List.append_eq]
                  refine wp_region_held_drew (S := (fun w' => w'.cell? ⟨W.heap.size + 1, a, none⟩ = some (.int .i64 (X : Int)) ∧ w'.cell? ⟨W.heap.size + 1, bb, none⟩ = some (.int .i64 (Y : Int)) ∧ w'.cell? ⟨g, Y, none⟩ = some (.slice (some ⟨gr, 0, none⟩) i cr))) (by kernel_rfl) ?_ (fun hHeld0 => ?_)
                  · (try dsimp only); go_keep
                  refine wpAnyH_take (i := 0) (oi := { dst := some 177, op := Go.Op.move (Go.Operand.tmp 11), type := 67, pos := "l12_count.go:75", after := #[], guard := none }) (v := ?_) rfl (by kernel_rfl) (by kernel_rfl) (by kernel_rfl) (fun _ _ _ h => h) (Or.inl ⟨by rfl, ?_⟩) (by assumption) ?_
                  rotate_left
                  · (intro w hSw; (try dsimp only at hSw); go_simp; try with_reducible rfl)
                  try simp only [Act.put, List.setIfInBounds_toArray, List.set_cons_zero, List.set_cons_succ]
                  refine wpAnyH_take (i := 1) (oi := { dst := some 178, op := Go.Op.move (Go.Operand.tmp 7), type := 69, pos := "l12_count.go:75", after := #[], guard := none }) (v := ?_) rfl (by kernel_rfl) (by kernel_rfl) (by kernel_rfl) (fun _ _ _ h => h) (Or.inl ⟨by rfl, ?_⟩) (by assumption) ?_
                  rotate_left
                  · (intro w hSw; (try dsimp only at hSw); go_simp; try with_reducible rfl)
                  try simp only [Act.put, List.setIfInBounds_toArray, List.set_cons_zero, List.set_cons_succ]
                  refine wpAnyH_take (i := 2) (oi := { dst := some 179, op := Go.Op.move (Go.Operand.tmp 15), type := 3, pos := "l12_count.go:75", after := #[], guard := none }) (v := ?_) rfl (by kernel_rfl) (by kernel_rfl) (by kernel_rfl) (fun _ _ _ h => h) (Or.inl ⟨by rfl, ?_⟩) (by assumption) ?_
                  rotate_left
                  · (intro w hSw; (try dsimp only at hSw); go_simp; try with_reducible rfl)
                  try simp only [Act.put, List.setIfInBounds_toArray, List.set_cons_zero, List.set_cons_succ]
                  refine wpAnyH_take (i := 3) (oi := { dst := some 180, op := Go.Op.indexAddr 69 (Go.Operand.tmp 178) (Go.Operand.tmp 179), type := 0, pos := "l12_count.go:75", after := #[{ on := 1, ground := Go.Ground.data }, { on := 2, ground := Go.Ground.data }], guard := none }) (v := ?_) rfl (by kernel_rfl) (by kernel_rfl) (by kernel_rfl) (fun _ _ _ h => h) (Or.inl ⟨by rfl, ?_⟩) (by assumption) ?_
                  rotate_left
                  · (intro w hSw; (try dsimp only at hSw); go_simp; try with_reducible rfl)
                  try simp only [Act.put, List.setIfInBounds_toArray, List.set_cons_zero, List.set_cons_succ]
                  refine wpAnyH_take (i := 4) (oi := { dst := some 181, op := Go.Op.load 3 (Go.Operand.tmp 180), type := 3, pos := "l12_count.go:75", after := #[{ on := 3, ground := Go.Ground.data }], guard := none }) (v := ?_) rfl (by kernel_rfl) (by kernel_rfl) (by kernel_rfl) (fun _ _ _ h => h) (Or.inl ⟨by rfl, ?_⟩) (by assumption) ?_
                  rotate_left
                  · (intro w hSw; (try dsimp only at hSw); go_simp; try with_reducible rfl)
                  try simp only [Act.put, List.setIfInBounds_toArray, List.set_cons_zero, List.set_cons_succ]
                  refine wpAnyH_take (i := 5) (oi := { dst := some 182, op := Go.Op.indexAddr 67 (Go.Operand.tmp 177) (Go.Operand.tmp 181), type := 0, pos := "l12_count.go:75", after := #[{ on := 0, ground := Go.Ground.data }, { on := 4, ground := Go.Ground.data }], guard := none }) (v := ?_) rfl (by kernel_rfl) (by kernel_rfl) (by kernel_rfl) (fun _ _ _ h => h) (Or.inl ⟨by rfl, ?_⟩) (by assumption) ?_
                  rotate_left
                  · (intro w hSw; (try dsimp only at hSw); go_simp; try with_reducible rfl)
                  try simp only [Act.put, List.setIfInBounds_toArray, List.set_cons_zero, List.set_cons_succ]
                  refine wpAnyH_take (i := 6) (oi := { dst := some 183, op := Go.Op.load 69 (Go.Operand.tmp 182), type := 69, pos := "l12_count.go:75", after := #[{ on := 5, ground := Go.Ground.data }], guard := none }) (v := ?_) rfl (by kernel_rfl) (by kernel_rfl) (by kernel_rfl) (fun _ _ _ h => h) (Or.inl ⟨by rfl, ?_⟩) (by assumption) ?_
                  rotate_left
                  · (intro w hSw; (try dsimp only at hSw); go_simp; try with_reducible rfl)
                  try simp only [Act.put, List.setIfInBounds_toArray, List.set_cons_zero, List.set_cons_succ]
                  refine wpAnyH_take (i := 7) (oi := { dst := some 184, op := Go.Op.move (Go.Operand.tmp 7), type := 69, pos := "l12_count.go:75", after := #[], guard := none }) (v := ?_) rfl (by kernel_rfl) (by kernel_rfl) (by kernel_rfl) (fun _ _ _ h => h) (Or.inl ⟨by rfl, ?_⟩) (by assumption) ?_
                  rotate_left
                  · (intro w hSw; (try dsimp only at hSw); go_simp; try with_reducible rfl)
                  try simp only [Act.put, List.setIfInBounds_toArray, List.set_cons_zero, List.set_cons_succ]
                  refine wpAnyH_take (i := 8) (oi := { dst := some 185, op := Go.Op.move (Go.Operand.tmp 14), type := 3, pos := "l12_count.go:75", after := #[], guard := none }) (v := ?_) rfl (by kernel_rfl) (by kernel_rfl) (by kernel_rfl) (fun _ _ _ h => h) (Or.inl ⟨by rfl, ?_⟩) (by assumption) ?_
                  rotate_left
                  · (intro w hSw; (try dsimp only at hSw); go_simp; try with_reducible rfl)
                  try simp only [Act.put, List.setIfInBounds_toArray, List.set_cons_zero, List.set_cons_succ]
                  refine wpAnyH_take (i := 9) (oi := { dst := some 186, op := Go.Op.indexAddr 69 (Go.Operand.tmp 184) (Go.Operand.tmp 185), type := 0, pos := "l12_count.go:75", after := #[{ on := 7, ground := Go.Ground.data }, { on := 8, ground := Go.Ground.data }], guard := none }) (v := ?_) rfl (by kernel_rfl) (by kernel_rfl) (by kernel_rfl) (fun _ _ _ h => h) (Or.inl ⟨by rfl, ?_⟩) (by assumption) ?_
                  rotate_left
                  · (intro w hSw; (try dsimp only at hSw); go_simp; try with_reducible rfl)
                  try simp only [Act.put, List.setIfInBounds_toArray, List.set_cons_zero, List.set_cons_succ]
                  refine wpAnyH_take (i := 10) (oi := { dst := some 187, op := Go.Op.load 3 (Go.Operand.tmp 186), type := 3, pos := "l12_count.go:75", after := #[{ on := 9, ground := Go.Ground.data }], guard := none }) (v := ?_) rfl (by kernel_rfl) (by kernel_rfl) (by kernel_rfl) (fun _ _ _ h => h) (Or.inl ⟨by rfl, ?_⟩) (by assumption) ?_
                  rotate_left
                  · (intro w hSw; (try dsimp only at hSw); go_simp; try with_reducible rfl)
                  try simp only [Act.put, List.setIfInBounds_toArray, List.set_cons_zero, List.set_cons_succ]
                  refine wpAnyH_take (i := 11) (oi := { dst := some 188, op := Go.Op.move (Go.Operand.tmp 11), type := 67, pos := "l12_count.go:75", after := #[], guard := none }) (v := ?_) rfl (by kernel_rfl) (by kernel_rfl) (by kernel_rfl) (fun _ _ _ h => h) (Or.inl ⟨by rfl, ?_⟩) (by assumption) ?_
                  rotate_left
                  · (intro w hSw; (try dsimp only at hSw); go_simp; try with_reducible rfl)
                  try simp only [Act.put, List.setIfInBounds_toArray, List.set_cons_zero, List.set_cons_succ]
                  refine wpAnyH_take (i := 12) (oi := { dst := some 189, op := Go.Op.move (Go.Operand.tmp 7), type := 69, pos := "l12_count.go:75", after := #[], guard := none }) (v := ?_) rfl (by kernel_rfl) (by kernel_rfl) (by kernel_rfl) (fun _ _ _ h => h) (Or.inl ⟨by rfl, ?_⟩) (by assumption) ?_
                  rotate_left
                  · (intro w hSw; (try dsimp only at hSw); go_simp; try with_reducible rfl)
                  try simp only [Act.put, List.setIfInBounds_toArray, List.set_cons_zero, List.set_cons_succ]
                  refine wpAnyH_take (i := 13) (oi := { dst := some 190, op := Go.Op.move (Go.Operand.tmp 15), type := 3, pos := "l12_count.go:75", after := #[], guard := none }) (v := ?_) rfl (by kernel_rfl) (by kernel_rfl) (by kernel_rfl) (fun _ _ _ h => h) (Or.inl ⟨by rfl, ?_⟩) (by assumption) ?_
                  rotate_left
                  · (intro w hSw; (try dsimp only at hSw); go_simp; try with_reducible rfl)
                  try simp only [Act.put, List.setIfInBounds_toArray, List.set_cons_zero, List.set_cons_succ]
                  refine wpAnyH_take (i := 14) (oi := { dst := some 191, op := Go.Op.indexAddr 69 (Go.Operand.tmp 189) (Go.Operand.tmp 190), type := 0, pos := "l12_count.go:75", after := #[{ on := 12, ground := Go.Ground.data }, { on := 13, ground := Go.Ground.data }], guard := none }) (v := ?_) rfl (by kernel_rfl) (by kernel_rfl) (by kernel_rfl) (fun _ _ _ h => h) (Or.inl ⟨by rfl, ?_⟩) (by assumption) ?_
                  rotate_left
                  · (intro w hSw; (try dsimp only at hSw); go_simp; try with_reducible rfl)
                  try simp only [Act.put, List.setIfInBounds_toArray, List.set_cons_zero, List.set_cons_succ]
                  refine wpAnyH_take (i := 15) (oi := { dst := some 192, op := Go.Op.load 3 (Go.Operand.tmp 191), type := 3, pos := "l12_count.go:75", after := #[{ on := 14, ground := Go.Ground.data }], guard := none }) (v := ?_) rfl (by kernel_rfl) (by kernel_rfl) (by kernel_rfl) (fun _ _ _ h => h) (Or.inl ⟨by rfl, ?_⟩) (by assumption) ?_
                  rotate_left
                  · (intro w hSw; (try dsimp only at hSw); go_simp; try with_reducible rfl)
                  try simp only [Act.put, List.setIfInBounds_toArray, List.set_cons_zero, List.set_cons_succ]
                  refine wpAnyH_take (i := 16) (oi := { dst := some 193, op := Go.Op.indexAddr 67 (Go.Operand.tmp 188) (Go.Operand.tmp 192), type := 0, pos := "l12_count.go:75", after := #[{ on := 11, ground := Go.Ground.data }, { on := 15, ground := Go.Ground.data }], guard := none }) (v := ?_) rfl (by kernel_rfl) (by kernel_rfl) (by kernel_rfl) (fun _ _ _ h => h) (Or.inl ⟨by rfl, ?_⟩) (by assumption) ?_
                  rotate_left
                  · (intro w hSw; (try dsimp only at hSw); go_simp; try with_reducible rfl)
                  try simp only [Act.put, List.setIfInBounds_toArray, List.set_cons_zero, List.set_cons_succ]
                  refine wpAnyH_take (i := 17) (oi := { dst := some 194, op := Go.Op.load 69 (Go.Operand.tmp 193), type := 69, pos := "l12_count.go:75", after := #[{ on := 16, ground := Go.Ground.data }], guard := none }) (v := ?_) rfl (by kernel_rfl) (by kernel_rfl) (by kernel_rfl) (fun _ _ _ h => h) (Or.inl ⟨by rfl, ?_⟩) (by assumption) ?_
                  rotate_left
                  · (intro w hSw; (try dsimp only at hSw); go_simp; try with_reducible rfl)
                  try simp only [Act.put, List.setIfInBounds_toArray, List.set_cons_zero, List.set_cons_succ]
                  refine wpAnyH_take (i := 18) (oi := { dst := some 195, op := Go.Op.move (Go.Operand.tmp 7), type := 69, pos := "l12_count.go:75", after := #[], guard := none }) (v := ?_) rfl (by kernel_rfl) (by kernel_rfl) (by kernel_rfl) (fun _ _ _ h => h) (Or.inl ⟨by rfl, ?_⟩) (by assumption) ?_
                  rotate_left
                  · (intro w hSw; (try dsimp only at hSw); go_simp; try with_reducible rfl)
                  try simp only [Act.put, List.setIfInBounds_toArray, List.set_cons_zero, List.set_cons_succ]
                  refine wpAnyH_take (i := 19) (oi := { dst := some 196, op := Go.Op.move (Go.Operand.tmp 14), type := 3, pos := "l12_count.go:75", after := #[], guard := none }) (v := ?_) rfl (by kernel_rfl) (by kernel_rfl) (by kernel_rfl) (fun _ _ _ h => h) (Or.inl ⟨by rfl, ?_⟩) (by assumption) ?_
                  rotate_left
                  · (intro w hSw; (try dsimp only at hSw); go_simp; try with_reducible rfl)
                  try simp only [Act.put, List.setIfInBounds_toArray, List.set_cons_zero, List.set_cons_succ]
                  refine wpAnyH_take (i := 20) (oi := { dst := some 197, op := Go.Op.indexAddr 69 (Go.Operand.tmp 195) (Go.Operand.tmp 196), type := 0, pos := "l12_count.go:75", after := #[{ on := 18, ground := Go.Ground.data }, { on := 19, ground := Go.Ground.data }], guard := none }) (v := ?_) rfl (by kernel_rfl) (by kernel_rfl) (by kernel_rfl) (fun _ _ _ h => h) (Or.inl ⟨by rfl, ?_⟩) (by assumption) ?_
                  rotate_left
                  · (intro w hSw; (try dsimp only at hSw); go_simp; try with_reducible rfl)
                  try simp only [Act.put, List.setIfInBounds_toArray, List.set_cons_zero, List.set_cons_succ]
                  refine wpAnyH_take (i := 21) (oi := { dst := some 198, op := Go.Op.load 3 (Go.Operand.tmp 197), type := 3, pos := "l12_count.go:75", after := #[{ on := 20, ground := Go.Ground.data }], guard := none }) (v := ?_) rfl (by kernel_rfl) (by kernel_rfl) (by kernel_rfl) (fun _ _ _ h => h) (Or.inl ⟨by rfl, ?_⟩) (by assumption) ?_
                  rotate_left
                  · (intro w hSw; (try dsimp only at hSw); go_simp; try with_reducible rfl)
                  try simp only [Act.put, List.setIfInBounds_toArray, List.set_cons_zero, List.set_cons_succ]
                  refine wpAnyH_take (i := 22) (oi := { dst := some 199, op := Go.Op.indexAddr 69 (Go.Operand.tmp 194) (Go.Operand.tmp 198), type := 0, pos := "l12_count.go:75", after := #[{ on := 17, ground := Go.Ground.data }, { on := 21, ground := Go.Ground.data }], guard := none }) (v := ?_) rfl (by kernel_rfl) (by kernel_rfl) (by kernel_rfl) (fun _ _ _ h => h) (Or.inl ⟨by rfl, ?_⟩) (by assumption) ?_
                  rotate_left
                  · (intro w hSw; (try dsimp only at hSw); go_simp; try with_reducible rfl)
                  try simp only [Act.put, List.setIfInBounds_toArray, List.set_cons_zero, List.set_cons_succ]
                  refine wpAnyH_ready (rs := [23]) (by kernel_rfl) (by simp) ?_
                  refine AllReadyH.cons (o := { dst := some 200, op := Go.Op.load 3 (Go.Operand.tmp 199), type := 3, pos := "l12_count.go:75", after := #[{ on := 22, ground := Go.Ground.data }], guard := none }) rfl (fun K23 hK23 => ?_) AllReadyH.nil
                  go_simp
                  refine hK23.out _ _ ?_ (fun hHeld1 => ?_)
                  · (try dsimp only); go_keep
                  clear hK23 K23 hHeld0
                  try simp only [Act.put, List.setIfInBounds_toArray, List.set_cons_zero, List.set_cons_succ]
                  refine wpAnyH_take (i := 24) (oi := { dst := some 201, op := Go.Op.binOp Go.BinOp.sub 3 (Go.Operand.tmp 200) (Go.Operand.const (Go.Value.int Go.IntKind.i64 1)) 3, type := 3, pos := "l12_count.go:75", after := #[{ on := 23, ground := Go.Ground.data }], guard := none }) (v := ?_) rfl (by kernel_rfl) (by kernel_rfl) (by kernel_rfl) (fun _ _ _ h => h) (Or.inl ⟨by rfl, ?_⟩) (by assumption) ?_
                  rotate_left
                  · (intro w hSw; (try dsimp only at hSw); go_simp; try with_reducible rfl)
                  try simp only [Act.put, List.setIfInBounds_toArray, List.set_cons_zero, List.set_cons_succ]
                  refine wpAnyH_take (i := 25) (oi := { dst := some 202, op := Go.Op.indexAddr 69 (Go.Operand.tmp 183) (Go.Operand.tmp 187), type := 0, pos := "l12_count.go:75", after := #[{ on := 6, ground := Go.Ground.data }, { on := 10, ground := Go.Ground.data }, { on := 0, ground := Go.Ground.phase }, { on := 1, ground := Go.Ground.phase }, { on := 2, ground := Go.Ground.phase }, { on := 3, ground := Go.Ground.phase }, { on := 4, ground := Go.Ground.phase }, { on := 5, ground := Go.Ground.phase }, { on := 6, ground := Go.Ground.phase }, { on := 7, ground := Go.Ground.phase }, { on := 8, ground := Go.Ground.phase }, { on := 9, ground := Go.Ground.phase }, { on := 10, ground := Go.Ground.phase }, { on := 11, ground := Go.Ground.phase }, { on := 12, ground := Go.Ground.phase }, { on := 13, ground := Go.Ground.phase }, { on := 14, ground := Go.Ground.phase }, { on := 15, ground := Go.Ground.phase }, { on := 16, ground := Go.Ground.phase }, { on := 17, ground := Go.Ground.phase }, { on := 18, ground := Go.Ground.phase }, { on := 19, ground := Go.Ground.phase }, { on := 20, ground := Go.Ground.phase }, { on := 21, ground := Go.Ground.phase }, { on := 22, ground := Go.Ground.phase }, { on := 23, ground := Go.Ground.phase }, { on := 24, ground := Go.Ground.phase }], guard := none }) (v := ?_) rfl (by kernel_rfl) (by kernel_rfl) (by kernel_rfl) (fun _ _ _ h => h) (Or.inl ⟨by rfl, ?_⟩) (by assumption) ?_
                  rotate_left
                  · (intro w hSw; (try dsimp only at hSw); go_simp; try with_reducible rfl)
                  try simp only [Act.put, List.setIfInBounds_toArray, List.set_cons_zero, List.set_cons_succ]
                  refine wpAnyH_ready (rs := [26]) (by kernel_rfl) (by simp) ?_
                  refine AllReadyH.cons (o := { dst := none, op := Go.Op.store 3 (Go.Operand.tmp 202) (Go.Operand.tmp 201), type := 0, pos := "l12_count.go:75", after := #[{ on := 25, ground := Go.Ground.data }, { on := 24, ground := Go.Ground.data }, { on := 0, ground := Go.Ground.phase }, { on := 1, ground := Go.Ground.phase }, { on := 2, ground := Go.Ground.phase }, { on := 3, ground := Go.Ground.phase }, { on := 4, ground := Go.Ground.phase }, { on := 5, ground := Go.Ground.phase }, { on := 6, ground := Go.Ground.phase }, { on := 7, ground := Go.Ground.phase }, { on := 8, ground := Go.Ground.phase }, { on := 9, ground := Go.Ground.phase }, { on := 10, ground := Go.Ground.phase }, { on := 11, ground := Go.Ground.phase }, { on := 12, ground := Go.Ground.phase }, { on := 13, ground := Go.Ground.phase }, { on := 14, ground := Go.Ground.phase }, { on := 15, ground := Go.Ground.phase }, { on := 16, ground := Go.Ground.phase }, { on := 17, ground := Go.Ground.phase }, { on := 18, ground := Go.Ground.phase }, { on := 19, ground := Go.Ground.phase }, { on := 20, ground := Go.Ground.phase }, { on := 21, ground := Go.Ground.phase }, { on := 22, ground := Go.Ground.phase }, { on := 23, ground := Go.Ground.phase }, { on := 24, ground := Go.Ground.phase }], guard := none }) rfl (fun K26 hK26 => ?_) AllReadyH.nil
                  go_simp
                  refine hK26.out _ _ ?_ (fun hHeld2 => ?_)
                  · (try dsimp only); exact ⟨(World.cell?_setCell_other _ _ _ _ (by simp; try omega)).trans hx1, (World.cell?_setCell_other _ _ _ _ (by simp; try omega)).trans hx2, (World.cell?_setCell_other _ _ _ _ (by simp; try omega)).trans rr⟩
                  clear hK26 K26 hHeld1
                  try simp only [Act.put, List.setIfInBounds_toArray, List.set_cons_zero, List.set_cons_succ]
                  refine wpAnyH_done (by kernel_rfl) ?_ _
                  go_wp2_with fail
                  have htsE := Lib.hid (show TS W x y b (W.heap.size + 1) k g i c11 (mtr k fun c => (plc L c : Int)) (ud (ud (ud (ud F0 X X zxx) Y Y zyy) X Y zxy) Y X zyx) (w6.setCell ⟨gr, X, none⟩ (.int .i64 zyx)).drew from htsE.out)
                  generalize (w6.setCell ⟨gr, X, none⟩ (.int .i64 zyx)).drew = w7 at *
                  clear hgg hgQ hx1 hx2 hbr hlr hzz
                  rw [HFin.out] at htsE
                  go_roundw
                  case rel => exact ⟨t + 1, by omega, by go_num, htsE.out⟩
                  case measure => simp [intOf]; omega
            · obtain rfl : t = G := by omega
              have hd3 : decide ((t : Int) < (t : Int)) = false := by simp
              have HTr := Lib.hid (fun A c X (h : MxIn X X.heap.size A (mtl (i - 1) fun p q => lap t u v E (p + 1) (q + 1))) => trees_any (G := t) (u := u) (v := v) (E := E) (w := (· + 1)) (fun p q => lap t u v E (p + 1) (q + 1)) (fun _ _ => rfl) A (i - 1) c X (by omega) hg24 (fun p q _ _ h => by simpa using h) h)
              have HRow : Hid (∀ p, p < i → ∃ gp cp, w1.cell? ⟨g, p, none⟩ = some (.slice (some ⟨gp, 0, none⟩) i cp) ∧ gp < w1.heap.size ∧ i ≤ cp ∧ cp ≤ maxLen ∧ ∀ q, q < i → w1.cell? ⟨gp, q, none⟩ = some (.int .i64 (lap t u v E p q))) := Lib.hid fun p hp => by
                obtain ⟨gp, cp, r1, -, r3, r4, r5, r6⟩ := hts1.out.row hp
                exact ⟨gp, cp, r1, r3, r4, r5, fun q hq => (r6 q hq).1⟩
              have hg1 : g < w1.heap.size := by
                obtain ⟨-, g', e, -, -, h, -⟩ := hts1.out.1.2.2.2.row (mtl_at (fun p q => lap t u v E p q) (show 0 < i by omega))
                cases e; exact h
              have HB1 := Lib.hid hts1.out.1.1
              have ho0 : Hid ((w1.alloc (.cells #[] 69)).ownsRow w1.heap.size 69 1 (.slice (some ⟨w1.heap.size, 0, none⟩) 0 0) 0 []) := Lib.hid (by
                have := World.ownsRow_lit (base := w1.heap.size) (e := 69) (size := 1) w1 #[] 0 (Nat.le_refl _) (by decide) rfl
                simpa using this)
              have hb0 := Lib.hid (below_box w1 (.cells #[] 69))
              clear hts1 x0 x1 HPl
              go_wp2_with fail
              generalize hb2 : w1.heap.size = b2 at *
              go_loopw [16, 17] (fun u16 u17 wr => ∃ m : Nat, 1 ≤ m ∧ m ≤ i ∧ u17 = .int .i64 m ∧ ∃ ds, Below b2 w1 wr ∧ wr.ownsRow b2 69 1 u16 (m - 1) ds ∧ RowsOf wr b2 ds ((List.range (m - 1)).map fun p => mtr (i - 1) fun q => lap t u v E (p + 1) (q + 1))) (fun _ u17 _ => i - (intOf u17).toNat)
              case atStart => exact ⟨1, Nat.le_refl _, by omega, rfl, [], hb0.out, ho0.out, fun r l hl => by simp at hl⟩
              case round =>
                clear hb0 ho0
                obtain ⟨m, hm1, hmi, rfl, ds, hbw0, ho1, hr0⟩ := hrel
                have HBw := Lib.hid hbw0
                have HR := Lib.hid hr0
                obtain ⟨A16, c16', rfl⟩ := intsP.own_form ho1
                have HO := Lib.hid ho1
                clear hbw0 hr0 ho1
                by_cases hm2 : m < i
                · have hd4 : decide ((m : Int) < (i : Int)) = true := decide_eq_true (by omega)
                  have hm3 : (0 : Int) ≤ (m : Int) := Int.natCast_nonneg _
                  have hm4 : (m : Int) < (i : Int) := by omega
                  obtain ⟨gm, cm, r1, r3, r4, r5, r6⟩ := HRow.out m hm2
                  have e1 : wr.cell? ⟨g, m, none⟩ = some (.slice (some ⟨gm, 0, none⟩) i cm) := (HBw.out.cell (p := ⟨g, m, none⟩) hg1).trans r1
                  have hcm1 : (cm = 1) = False := by simp; omega
                  have hdl : ds.length = ((List.range (m - 1)).map fun p => mtr (i - 1) fun q => lap t u v E (p + 1) (q + 1)).length := by have := HO.out.1; simp; omega
                  have hin : IntsIn wr b2 (some ⟨gm, 1, none⟩) (mtr (i - 1) fun q => lap t u v E (m - 1 + 1) (q + 1)) := fun _ => ⟨_, rfl, r3, fun q z hq => by
                    have hq1 : q < i - 1 := by have := (List.getElem?_eq_some_iff.1 hq).1; rw [mtr_len] at this; exact this
                    rw [mtr_at _ hq1] at hq
                    have e3 : (⟨gm, 1, none⟩ : Addr).add q = ⟨gm, q + 1, none⟩ := by
                      rw [Addr.add_lit, Nat.add_comm]
                    rw [e3, (HBw.out.cell (p := ⟨gm, q + 1, none⟩) r3).trans (r6 (q + 1) (by omega)), show m - 1 + 1 = m by omega] at *
                    rw [Option.some.inj hq]⟩
                  have HSn := Lib.hid (rows_snoc (ci := cm - 1) HR.out hdl hin (by rw [mtr_len]; omega) (by omega))
                  rw [mtr_len] at HSn
                  have HEq : Hid ((List.range (m - 1)).map (fun p => mtr (i - 1) fun q => lap t u v E (p + 1) (q + 1)) ++ [mtr (i - 1) fun q => lap t u v E (m - 1 + 1) (q + 1)] = (List.range m).map fun p => mtr (i - 1) fun q => lap t u v E (p + 1) (q + 1)) := Lib.hid (by
                    conv => rhs; rw [show m = m - 1 + 1 by omega, List.range_succ, List.map_append]
                    rfl)
                  have hbs : b2 ≤ wr.heap.size := by rw [← hb2]; exact HBw.out.size
                  clear r1 r4 r5 r6 hin hdl
                  go_wp2_with (at_builtin; go_loud (refine wpList_append_lies _ rfl (.tmp 209) (.tmp 215) 67 rfl b2 69 j0 _ 1 24 Try.underlying67 hj0 hy0 hy1 hy2 rfl (by decide) _ (m - 1) ds rfl (HO.out.alloc _) ⟨wr.heap.size, 0, none⟩ 1 1 [.slice (some ⟨gm, 1, none⟩) (i - 1) (cm - 1)] rfl rfl (news_eqI rfl (heap_alloc_new wr _)) (fun u hu => by rw [List.mem_singleton.1 hu]; rfl) (by omega) (by unfold maxLen; omega) (by omega) (by simp; omega) _ rfl ?_); intro gg cap w5 o5 g5 hat hlt2; clear hat hlt2; have HB5 := Lib.hid (below_app (B := b2) HBw.out (Nat.le_refl _) (by omega) HO.out g5); have HR5 := Lib.hid (HSn.out.below (below_app (B := b2) (Below.refl b2 wr) (Nat.le_refl _) hbs HO.out g5)); have HO5 := Lib.hid o5; clear o5 g5)
                  go_roundw
                  case rel => exact ⟨m + 1, by omega, by omega, by go_num, _, HB5.out, by have h := HO5.out; rw [show m - 1 + 1 = m by omega] at h; rw [show m + 1 - 1 = m by omega]; exact h, by rw [show m + 1 - 1 = m by omega, ← HEq.out]; exact HR5.out⟩
                  case measure => simp [intOf]; omega
                · obtain rfl : m = i := by omega
                  have hd4 : decide ((m : Int) < (m : Int)) = false := by simp
                  have HMx : Hid (MxIn wr wr.heap.size A16 (mtl (m - 1) fun p q => lap t u v E (p + 1) (q + 1))) := Lib.hid (RowsOf.mx HR.out (by rw [← hb2]; exact HBw.out.size) HO.out (by rw [mtl_len]))
                  have HBl := Lib.hid (HB1.out.trans (HBw.out.mono (by rw [← hb2]; exact HB1.out.size)))
                  clear HR HO HRow
                  go_wp2_with fail
                  refine (HTr.out _ _ _ HMx.out).mono ?_
                  rintro e w6 ⟨rfl, hb⟩
                  have HBl2 := Lib.hid (below_call HBl.out hb)
                  clear hb HMx HBl
                  go_wp2_with fail
                  go_ret
                  exact HK.out _ _ Hr.out HBl2.out
end Go.Proofs.Ytnfnandpcjgmmaa.cntT

/- The contract of the model's CountFixed. -/
namespace Go.Proofs.Ytnfnandpcjgmmaa.cntU
open Go.ChangeShapes Go.WideShapes Go.ChangeAt Go.RowKit
open draw gridP gridC gridE bitP mazeP mazeQ mazeC mazeM mazeR mazeS intsP reachD intA intK listK rowsP detP trsP barP barQ trcP matP matM matQ matR matX reachM forest cntP cntQ cntM cntF cntG cntT
open walP (lbN mgN frB fr_iff nD)
open walR (lbl lbl_len lbl_at miN mi_zero mi_a mi_here mi_step mi_far mi_keep)
set_option linter.unusedVariables false

/-- What the minor is. -/
theorem cf_minor {x y : Int} (hk : OkZ x y) {c b : Nat} (hc : c < 2 ^ gN x y) (hcb : c &&& b = 0) (hl : lp x y c = 0) :
    dm (lap (gN x y) (fun g => plc (lcN x y c (gN x y)) (aN x y g)) (fun g => plc (lcN x y c (gN x y)) (bN x y g)) (fun g => decide (bt (c ||| b) g = 0))) ((List.range (nD (lcN x y c (gN x y)) (cN x y) - 1)).map (· + 1)) = (tcN x y c b : Int) := by
  have hpos := nd_pos' hk (lcN x y c (gN x y))
  have hap : ∀ g, bt c g = 1 → bt b g = 0 := fun g h => by
    have h1 := bt_test (c &&& b) g
    rw [Nat.testBit_and, bt_test, bt_test, decide_eq_true h, Bool.true_and, hcb, bt_zero] at h1
    have h2 := bt_le b g
    simp at h1
    omega
  refine (tc_minor (r := 0) hk hc (fun g _ h => hap g h) (fun g _ => ?_) (plc_parts hk hc hl) (by omega) ?_ (fun t ht => ?_) ?_ (fun t ht => ?_)).symm
  · rw [decide_eq_true_eq, bt_or]
    have h1 := bt_le c g
    have h2 := bt_le b g
    split
    · rename_i h; omega
    · rename_i h
      have : ¬ bt c g = 1 := fun e => h (.inl e)
      have : ¬ bt b g = 1 := fun e => h (.inr e)
      omega
  · exact map_nodup List.nodup_range fun i j _ _ h => by omega
  · rw [List.mem_map]
    constructor
    · rintro ⟨i, -, rfl⟩; omega
    · intro h; exact ⟨t - 1, List.mem_range.2 (by omega), by omega⟩
  · rw [List.length_map, List.length_range]; omega
  · obtain ⟨i, hi, rfl⟩ := List.mem_map.1 ht
    have := List.mem_range.1 hi
    omega
theorem idn_put (N k : Nat) : (mtr N fun j => if j < k then (j : Int) else 0).set k (k : Int) = mtr N fun j => if j < k + 1 then (j : Int) else 0 := by
  by_cases hk : k < N
  · refine mtr_set hk (by rw [if_pos (Nat.lt_succ_self k)]) fun q hq => ?_
    by_cases h : q < k
    · rw [if_pos h, if_pos (by omega)]
    · rw [if_neg h, if_neg (by omega)]
  · rw [List.set_eq_of_length_le (by rw [mtr_len]; omega)]
    exact mtr_ext fun j hj => by rw [if_pos (by omega), if_pos (by omega)]

theorem cf_bad {x y c b : Int} (h : cfB x y c b = false) : 0 = cfZ x y c b := by unfold cfZ; rw [if_neg (by rw [h]; decide)]
theorem countFixed_grid (x y c b : Int) (W : World) (hk : ¬ OkZ x y) :
    Calls Try.prog 36 #[.agg #[.int .i64 x, .int .i64 y], .int .i64 c, .int .i64 b] W (Nm (cfZ x y c b) W) := by
  have he := cf_bad (x := x) (y := y) (c := c) (b := b) (by unfold cfB; rw [decide_eq_false hk]; rfl)
  have HK := @Lib.hid _ (fun w' h => @nm_mk 0 (cfZ x y c b) W w' he h)
  have HG := Lib.hid (fun X => gridS.countGaps_no x y X hk)
  have HO := Lib.hid (fun X => gridS.gridOk_no x y X hk)
  have HB := Lib.hid below_box
  have HX := Lib.hid (box_new x y W)
  clear he hk
  go_enter Try.func36, Try.ntmps36
  go_wp2_with fail
  refine (HG.out _).mono ?_
  rintro e w1 ⟨rfl, hb⟩
  have hb1 := Lib.hid (below_call (HB.out _ _) hb)
  have hx := Lib.hid ((HX.out _).call hb)
  obtain ⟨x0, x1⟩ := hx.out.1
  clear hb
  go_wp2_with fail
  refine (HO.out _).mono ?_
  rintro e w2 ⟨rfl, hb⟩
  have hb2 := Lib.hid (below_call hb1.out hb)
  clear hb
  go_wp2_with fail
  go_ret
  exact HK.out _ hb2.out

set_option maxRecDepth 100000 in
set_option maxHeartbeats 8000000 in
theorem countFixed_good (x y c b : Int) (W : World) (hk : OkZ x y) :
    Calls Try.prog 36 #[.agg #[.int .i64 x, .int .i64 y], .int .i64 c, .int .i64 b] W (Nm (cfZ x y c b) W) := by
  have HG : Hid (∀ X, Calls Try.prog 38 #[.agg #[.int .i64 x, .int .i64 y]] X (Nm (gpsZ x y) X)) := fun X => gridS.countGaps_yes x y X hk.1 hk.2.1 hk.2.2.1 hk.2.2.2
  have HO := Lib.hid (fun X => gridS.gridOk_yes x y X hk.1 hk.2.1 hk.2.2.1 hk.2.2.2)
  have HB := Lib.hid below_box
  have HX := Lib.hid (box_new x y W)
  obtain ⟨g0, g1⟩ := gps_bd hk.1 hk.2.1 hk.2.2.1 hk.2.2.2
  have HT : Hid (∀ u z, z = 2 ^ (gpsZ x y).toNat - 1 → inB u 0 z = decide (0 ≤ u ∧ u ≤ topZ x y)) := fun u z hz => by
    subst hz; unfold inB topZ; rfl
  have HP := Lib.hid (pow_bd _ g1)
  have HKb := @Lib.hid _ (fun w' (h : cfB x y c b = false) hb => @nm_mk 0 (cfZ x y c b) W w' (cf_bad h) hb)
  have hcf : cfB x y c b = (decide (0 ≤ c ∧ c ≤ topZ x y) && decide (0 ≤ b ∧ b ≤ topZ x y) && (c.toNat &&& b.toNat == 0)) := by unfold cfB; rw [decide_eq_true hk, Bool.true_and]
  cases hcv : decide (0 ≤ c ∧ c ≤ topZ x y) with
  | false =>
    rw [hcv] at hcf
    have HTc := Lib.hid (HT.out c)
    rw [hcv] at HTc
    clear hcv HT hk
    generalize cfZ x y c b = r at *
    generalize gpsZ x y = G at *
    go_enter Try.func36, Try.ntmps36
    go_wp2_with fail
    refine (HG.out _).mono ?_
    rintro e w1 ⟨rfl, hb⟩
    have hb1 := Lib.hid (below_call (HB.out _ _) hb)
    have hx := Lib.hid ((HX.out _).call hb)
    obtain ⟨x0, x1⟩ := hx.out.1
    clear hb
    go_wp2_with fail
    refine (HO.out _).mono ?_
    rintro e w2 ⟨rfl, hb⟩
    have hb2 := Lib.hid (below_call hb1.out hb)
    clear hb
    go_wp2_with fail
    refine (in_b _ _ _ _).mono ?_
    rintro e w3 ⟨rfl, rfl⟩
    rw [HTc.out _ (by have := HP.out; generalize (2 : Int) ^ G.toNat = P at *; first | (unfold wrap64; omega) | rw [IntWalk.i64_in P (by omega), IntWalk.i64_in _ (by omega)])]
    go_wp2_with fail
    go_ret
    exact HKb.out _ (by rw [hcf]; rfl) hb2.out
  | true =>
    rw [hcv] at hcf
    have HTc := Lib.hid (HT.out c)
    rw [hcv] at HTc
    cases hbv : decide (0 ≤ b ∧ b ≤ topZ x y) with
    | false =>
      rw [hbv] at hcf
      have HTb := Lib.hid (HT.out b)
      rw [hbv] at HTb
      clear hcv hbv HT hk
      generalize cfZ x y c b = r at *
      generalize gpsZ x y = G at *
      go_enter Try.func36, Try.ntmps36
      go_wp2_with fail
      refine (HG.out _).mono ?_
      rintro e w1 ⟨rfl, hb⟩
      have hb1 := Lib.hid (below_call (HB.out _ _) hb)
      have hx := Lib.hid ((HX.out _).call hb)
      obtain ⟨x0, x1⟩ := hx.out.1
      clear hb
      go_wp2_with fail
      refine (HO.out _).mono ?_
      rintro e w2 ⟨rfl, hb⟩
      have hb2 := Lib.hid (below_call hb1.out hb)
      have hx2 := Lib.hid (hx.out.call hb)
      clear hb hx x0 x1
      go_wp2_with fail
      refine (in_b _ _ _ _).mono ?_
      rintro e w3 ⟨rfl, rfl⟩
      rw [HTc.out _ (by have := HP.out; generalize (2 : Int) ^ G.toNat = P at *; first | (unfold wrap64; omega) | rw [IntWalk.i64_in P (by omega), IntWalk.i64_in _ (by omega)])]
      go_wp2_with fail
      refine (in_b _ _ _ _).mono ?_
      rintro e w3 ⟨rfl, rfl⟩
      rw [HTb.out _ (by have := HP.out; generalize (2 : Int) ^ G.toNat = P at *; first | (unfold wrap64; omega) | rw [IntWalk.i64_in P (by omega), IntWalk.i64_in _ (by omega)])]
      go_wp2_with fail
      go_ret
      exact HKb.out _ (by rw [hcf]; rfl) hb2.out
    | true =>
      rw [hbv] at hcf
      have HTb := Lib.hid (HT.out b)
      rw [hbv] at HTb
      have hc1 := of_decide_eq_true hcv
      have hb1' := of_decide_eq_true hbv
      obtain ⟨cn, rfl⟩ := Int.eq_ofNat_of_zero_le hc1.1
      obtain ⟨bn, rfl⟩ := Int.eq_ofNat_of_zero_le hb1'.1
      rw [Int.toNat_natCast, Int.toNat_natCast] at hcf
      have htop : topZ x y = ((2 ^ gN x y : Nat) : Int) - 1 := by
        unfold topZ gN; norm_cast
      have hcl : cn < 2 ^ gN x y := by omega
      have hbl : bn < 2 ^ gN x y := by omega
      have hg24 : gN x y ≤ 24 := by unfold gN; omega
      have h24 : 2 ^ gN x y ≤ 16777216 := Nat.le_trans (Nat.pow_le_pow_right (by decide) hg24) (by decide)
      have hand : bits .and .i64 (cn : Int) (bn : Int) = ((cn &&& bn : Nat) : Int) := and_i64 _ _ (by omega) (by omega)
      by_cases hab : cn &&& bn = 0
      · have hq : (((cn &&& bn : Nat) : Int) != 0) = false := by rw [hab]; rfl
        have hcv1 : cfB x y cn bn = true := by rw [hcf, hab]; rfl
        have he : cfZ x y cn bn = (tcN x y cn bn : Int) := by unfold cfZ; rw [if_pos hcv1, Int.toNat_natCast, Int.toNat_natCast]
        have hor : bits .or .i64 (cn : Int) (bn : Int) = ((cn ||| bn : Nat) : Int) := or_i64 _ _ (by omega) (by omega)
        have HKm := @Lib.hid _ (fun w' z h hb => @nm_mk z (cfZ x y cn bn) W w' h hb)
        have HMi := Lib.hid (fun hl => cf_minor hk hcl hab hl)
        have HNc := Lib.hid (fun h => no_cy hk hcl h)
        have HZc := Lib.hid (fun t ht h => cy_zero (b := bn) (k := t) hk hcl ht h)
        rw [← he] at HMi
        have HZ : Hid (∀ t, t < gN x y → cyB x y cn t = true → 0 = cfZ x y cn bn) := Lib.hid fun t ht h => by rw [he, HZc.out t ht h]; rfl
        have HL12 := Lib.hid (fun A c X h => l12trees_any x y (cn ||| bn) (lcN x y cn (gN x y)) A c X hk (Nat.or_lt_two_pow hcl hbl) h)
        have HCc : Hid (∀ X, Calls Try.prog 54 #[.agg #[.int .i64 x, .int .i64 y]] X (Nm (cN x y : Int) X)) := fun X => by
          have := gridS.countCells_yes x y X hk.1 hk.2.1 hk.2.2.1 hk.2.2.2
          have e : x * y = (cN x y : Int) := by have := (mul_bd x y hk.1 hk.2.1 hk.2.2.1 hk.2.2.2).1; unfold cN; omega
          rwa [e] at this
        have hc16 := c16 hk
        have HEn := Lib.hid (fun (t : Nat) X => gridS.endsOf_any x y t X)
        have HEl := Lib.hid (fun (t : Nat) (h : t < gN x y) => ends_lt hk h)
        have HTb1 := Lib.hid (fun (t : Nat) X (h : t < 24) => bit_b cn t X (by omega) (by omega) (by omega) (by omega))
        have HYes := Lib.hid (fun t h => @lc_yes x y cn t h)
        have HNo := Lib.hid (fun t h => @lc_no x y cn t h)
        have hgi : gpsZ x y = (gN x y : Int) := by unfold gN; omega
        have H0 := Lib.hid (show lcN x y cn 0 = id from rfl)
        rw [hgi] at HTc HTb HG HP g0 g1
        obtain ⟨i0, hi0, hz0, hz1, hz2⟩ := info_parts info_int
        clear HZc hcv hbv HT hk hc1 hb1' htop hcl hbl h24 hab hcf he hcv1 hgi HKb
        generalize cfZ x y cn bn = r at *
        generalize cN x y = N at *
        generalize hGe : gN x y = Gn at *
        generalize (cn &&& bn) = an at *
        generalize (cn ||| bn) = ou at *
        obtain ⟨G, hGG⟩ : ∃ G : Int, (Gn : Int) = G := ⟨_, rfl⟩
        rw [hGG] at HTc HTb HG HP g0 g1
        go_enter Try.func36, Try.ntmps36
        go_wp2_with fail
        refine (HG.out _).mono ?_
        rintro e w1 ⟨rfl, hb⟩
        have hb1 := Lib.hid (below_call (HB.out _ _) hb)
        have hx := Lib.hid ((HX.out _).call hb)
        obtain ⟨x0, x1⟩ := hx.out.1
        clear hb
        go_wp2_with fail
        refine (HO.out _).mono ?_
        rintro e w2 ⟨rfl, hb⟩
        have hb2 := Lib.hid (below_call hb1.out hb)
        have hx2 := Lib.hid (hx.out.call hb)
        clear hb hx x0 x1
        go_wp2_with fail
        refine (in_b _ _ _ _).mono ?_
        rintro e w3 ⟨rfl, rfl⟩
        rw [HTc.out _ (by have := HP.out; generalize (2 : Int) ^ G.toNat = P at *; first | (unfold wrap64; omega) | rw [IntWalk.i64_in P (by omega), IntWalk.i64_in _ (by omega)])]
        go_wp2_with fail
        refine (in_b _ _ _ _).mono ?_
        rintro e w3 ⟨rfl, rfl⟩
        rw [HTb.out _ (by have := HP.out; generalize (2 : Int) ^ G.toNat = P at *; first | (unfold wrap64; omega) | rw [IntWalk.i64_in P (by omega), IntWalk.i64_in _ (by omega)])]
        subst hGG
        obtain ⟨x0, x1⟩ := hx2.out.1
        generalize wrap64 (wrap64 (2 ^ Gn) - 1) = sh1
        generalize wrap64 (2 ^ Gn) = sh
        go_wp2_with fail
        refine (HCc.out _).mono ?_
        rintro e w3 ⟨rfl, hb⟩
        have hb3 := Lib.hid (below_call hb2.out hb)
        have hx3 := Lib.hid (hx2.out.call hb)
        clear hb hx2
        have hmk := run_make (P := Try.prog) w3 69 3 i0 (.int .i64 0) Try.underlying69 hi0 hz0 .i64 .i64 (N : Int) (N : Int) (by omega) (by omega) (by rw [hz2]; omega) (by omega)
        rw [hz1] at hmk
        simp only [Int.toNat_natCast, Nat.mul_one] at hmk
        have hgs0 := Lib.hid (gs_new (N := N) hb3.out hx3.out (by unfold maxLen; omega))
        go_wp2_with fail
        clear hmk
        generalize w3.heap.size = Q at *
        clear hb3 hx3
        go_loopw [9] (fun u9 wr => ∃ t : Nat, t ≤ N ∧ u9 = .int .i64 t ∧ GS W x y Q N (mtr N fun j => if j < t then (j : Int) else 0) wr) (fun u9 _ => N - (intOf u9).toNat)
        case atStart => exact ⟨0, Nat.zero_le _, rfl, hgs0.out⟩
        case round =>
          clear hgs0
          obtain ⟨t, htN, rfl, hgs0⟩ := hrel
          have hgs := Lib.hid hgs0
          clear hgs0
          have ht0 : (0 : Int) ≤ (t : Int) := Int.natCast_nonneg _
          by_cases ht1 : t < N
          · have hd : decide ((t : Int) < (N : Int)) = true := decide_eq_true (by omega)
            have ht2 : (t : Int) < (N : Int) := by omega
            obtain ⟨ct, ft⟩ := hgs.out.cell ht1
            have HN := Lib.hid (hgs.out.put t (t : Int))
            rw [idn_put] at HN
            go_wp2_with fail
            go_roundw
            case rel => exact ⟨t + 1, by omega, by go_num, HN.out⟩
            case measure => simp [intOf]; omega
          · obtain rfl : t = N := by omega
            have hd : decide ((t : Int) < (t : Int)) = false := by simp
            have hgs1 := hgs.out
            rw [mtr_ext (g := fun j => (lcN x y cn 0 j : Int)) (fun j hj => by rw [if_pos hj, H0.out]; rfl)] at hgs1
            have hgs := Lib.hid hgs1
            clear hgs1
            go_wp2_with fail
            go_loopw [10] (fun u10 wr => ∃ s : Nat, s ≤ Gn ∧ u10 = .int .i64 s ∧ (∀ q, q < s → cyB x y cn q = false) ∧ GS W x y Q t (mtr t fun j => (lcN x y cn s j : Int)) wr) (fun u10 _ => Gn - (intOf u10).toNat)
            case atStart => exact ⟨0, Nat.zero_le _, rfl, fun q hq => absurd hq (Nat.not_lt_zero q), hgs.out⟩
            case round =>
              clear hgs
              obtain ⟨s, hsG, rfl, hcy, hgs0⟩ := hrel
              have hgs := Lib.hid hgs0
              have HCy := Lib.hid hcy
              clear hgs0 hcy
              have hs0 : (0 : Int) ≤ (s : Int) := Int.natCast_nonneg _
              obtain ⟨x0, x1⟩ := hgs.out.2.1.1
              by_cases hs1 : s < Gn
              · have hd2 : decide ((s : Int) < (Gn : Int)) = true := decide_eq_true (by omega)
                have HT1 := Lib.hid (fun X => HTb1.out s X (by omega))
                rw [bt_btB] at HT1
                have hcyd : cyB x y cn s = (decide (bt cn s = 1) && (lcN x y cn s (aN x y s) == lcN x y cn s (bN x y s))) := rfl
                by_cases hbt : bt cn s = 1
                · rw [decide_eq_true hbt] at HT1
                  rw [decide_eq_true hbt, Bool.true_and] at hcyd
                  obtain ⟨el1, el2, el3, el4⟩ := HEl.out s hs1
                  have HEn1 := Lib.hid (HEn.out s)
                  rw [el3, el4] at HEn1
                  have hys := HYes.out s hbt
                  generalize hlk : lcN x y cn s = L at *
                  generalize aN x y s = a at *
                  generalize bN x y s = bb at *
                  have ha0 : (0 : Int) ≤ (a : Int) := Int.natCast_nonneg _
                  have ha1 : (a : Int) < (t : Int) := by omega
                  have hbb0 : (0 : Int) ≤ (bb : Int) := Int.natCast_nonneg _
                  have hbb1 : (bb : Int) < (t : Int) := by omega
                  go_wp2_with fail
                  refine (HT1.out _).mono ?_
                  rintro e w' ⟨rfl, rfl⟩
                  go_wp2_with fail
                  refine (HEn1.out _).mono ?_
                  rintro e w4 ⟨rfl, hb⟩
                  have hgs1 := Lib.hid (hgs.out.call hb)
                  clear hb hgs x0 x1
                  obtain ⟨ca, -⟩ := hgs1.out.cell (show a < t by omega)
                  obtain ⟨cb, -⟩ := hgs1.out.cell el2
                  by_cases hLe : L a = L bb
                  · have hq2 : (((L a : Nat) : Int) == ((L bb : Nat) : Int)) = true := by rw [hLe]; simp
                    have hcyt : cyB x y cn s = true := by rw [hcyd, hLe]; simp
                    have HZ1 := Lib.hid (HZ.out s hs1 hcyt)
                    clear hcyt hcyd hys hlk hLe
                    go_wp2_with fail
                    go_quiet (fail)
                    go_wp2_with fail
                    go_ret
                    exact HKm.out _ _ HZ1.out (below_draws hgs1.out.1 _)
                  · have hq2 : (((L a : Nat) : Int) == ((L bb : Nat) : Int)) = false := by rw [beq_eq_false_iff_ne]; omega
                    have hcyf : cyB x y cn s = false := by rw [hcyd]; simpa using hLe
                    have HCy2 : Hid (∀ q, q < s + 1 → cyB x y cn q = false) := Lib.hid fun q hq => by
                      by_cases e : q = s
                      · rw [e]; exact hcyf
                      · exact HCy.out q (by omega)
                    clear hcyf hcyd hlk
                    have HYs := Lib.hid hys
                    clear hys
                    have hgs2 := Lib.hid (fun n => hgs1.out.drs n)
                    go_wp2_with fail
                    go_quiet (fail)
                    have hgs3 := Lib.hid (hgs2.out nq)
                    clear hgs2 hgs1 ca cb
                    generalize w4.drewN nq = w5 at *
                    obtain ⟨cb, -⟩ := hgs3.out.cell el2
                    go_wp2_with fail
                    go_loopw [14] (fun u14 wq => ∃ p : Nat, p ≤ t ∧ u14 = .int .i64 p ∧ GS W x y Q t (mtr t fun j => (miN L a bb p j : Int)) wq) (fun u14 _ => t - (intOf u14).toNat)
                    case atStart => exact ⟨0, Nat.zero_le _, rfl, by rw [mi_zero]; exact hgs3.out⟩
                    case round =>
                      clear hgs3 cb
                      obtain ⟨p, hpt, rfl, hgs0⟩ := hrel
                      have hgs := Lib.hid hgs0
                      clear hgs0
                      have hp0 : (0 : Int) ≤ (p : Int) := Int.natCast_nonneg _
                      by_cases hp1 : p < t
                      · have hd3 : decide ((p : Int) < (t : Int)) = true := decide_eq_true (by omega)
                        have hp2 : (p : Int) < (t : Int) := by omega
                        obtain ⟨cp, fp⟩ := hgs.out.cell hp1
                        rw [mi_here] at cp
                        obtain ⟨ca, -⟩ := hgs.out.cell (show a < t by omega)
                        rw [mi_a] at ca
                        by_cases he2 : L p = L bb
                        · have hq3 : (((L p : Nat) : Int) == ((L bb : Nat) : Int)) = true := by rw [he2]; simp
                          have HN0 := hgs.out.put p (L a : Int)
                          rw [mtr_set (g := fun j => (miN L a bb (p + 1) j : Int)) hp1 (by rw [mi_step, if_pos he2]) (fun q hq => by rw [mi_far hq])] at HN0
                          have HN := Lib.hid HN0
                          clear HN0 he2
                          go_wp2_with fail
                          go_roundw
                          case rel => exact ⟨p + 1, by omega, by go_num, HN.out⟩
                          case measure => simp [intOf]; omega
                        · have hq3 : (((L p : Nat) : Int) == ((L bb : Nat) : Int)) = false := by rw [beq_eq_false_iff_ne]; omega
                          have HN0 := hgs.out
                          rw [← mi_keep he2] at HN0
                          have HN := Lib.hid HN0
                          clear HN0 he2
                          go_wp2_with fail
                          go_roundw
                          case rel => exact ⟨p + 1, by omega, by go_num, HN.out⟩
                          case measure => simp [intOf]; omega
                      · obtain rfl : p = t := by omega
                        have hd3 : decide ((p : Int) < (p : Int)) = false := by simp
                        have HN0 := hgs.out
                        rw [mtr_ext (g := fun j => (lcN x y cn (s + 1) j : Int)) (fun j hj => by rw [HYs.out, miN, if_pos hj])] at HN0
                        have HN := Lib.hid HN0
                        clear HN0 hgs
                        go_wp2_with fail
                        go_roundw
                        case rel => exact ⟨s + 1, by omega, by go_num, HCy2.out, HN.out⟩
                        case measure => simp [intOf]; omega
                · rw [decide_eq_false hbt] at HT1
                  have hcyf : cyB x y cn s = false := by rw [hcyd, decide_eq_false hbt]; rfl
                  have HCy2 : Hid (∀ q, q < s + 1 → cyB x y cn q = false) := Lib.hid fun q hq => by
                    by_cases e : q = s
                    · rw [e]; exact hcyf
                    · exact HCy.out q (by omega)
                  have HN0 := hgs.out
                  rw [← HNo.out s hbt] at HN0
                  have HN := Lib.hid HN0
                  clear HN0 hcyf hcyd hgs
                  go_wp2_with fail
                  refine (HT1.out _).mono ?_
                  rintro e w' ⟨rfl, rfl⟩
                  go_wp2_with fail
                  go_roundw
                  case rel => exact ⟨s + 1, by omega, by go_num, HCy2.out, HN.out⟩
                  case measure => simp [intOf]; omega
              · obtain rfl : s = Gn := by omega
                have hd2 : decide ((s : Int) < (s : Int)) = false := by simp
                have HR := Lib.hid (HMi.out (HNc.out HCy.out))
                have HI : Hid (IntsIn wr wr.heap.size (some ⟨Q, 0, none⟩) (lbl (lcN x y cn s) t)) := Lib.hid (ints_own hgs.out.2.2).1
                clear HMi HNc HZ HCy
                go_wp2_with fail
                refine (HL12.out _ _ _ HI.out).mono ?_
                rintro e w4 ⟨rfl, hb⟩
                have hbE := Lib.hid (below_call hgs.out.1 hb)
                clear hb
                go_wp2_with fail
                go_ret
                exact HKm.out _ _ HR.out hbE.out
      · have hq : (((cn &&& bn : Nat) : Int) != 0) = true := by rw [bne_iff_ne]; omega
        have hf : cfB x y cn bn = false := by
          rw [hcf]
          have : (cn &&& bn == 0) = false := by rw [beq_eq_false_iff_ne]; exact hab
          rw [this]; rfl
        clear hcv hbv HT hk hc1 hb1' htop hcl hbl hg24 h24 hab hcf
        generalize cfZ x y cn bn = r at *
        generalize gpsZ x y = G at *
        generalize (cn &&& bn) = an at *
        go_enter Try.func36, Try.ntmps36
        go_wp2_with fail
        refine (HG.out _).mono ?_
        rintro e w1 ⟨rfl, hb⟩
        have hb1 := Lib.hid (below_call (HB.out _ _) hb)
        have hx := Lib.hid ((HX.out _).call hb)
        obtain ⟨x0, x1⟩ := hx.out.1
        clear hb
        go_wp2_with fail
        refine (HO.out _).mono ?_
        rintro e w2 ⟨rfl, hb⟩
        have hb2 := Lib.hid (below_call hb1.out hb)
        have hx2 := Lib.hid (hx.out.call hb)
        clear hb hx x0 x1
        go_wp2_with fail
        refine (in_b _ _ _ _).mono ?_
        rintro e w3 ⟨rfl, rfl⟩
        rw [HTc.out _ (by have := HP.out; generalize (2 : Int) ^ G.toNat = P at *; first | (unfold wrap64; omega) | rw [IntWalk.i64_in P (by omega), IntWalk.i64_in _ (by omega)])]
        go_wp2_with fail
        refine (in_b _ _ _ _).mono ?_
        rintro e w3 ⟨rfl, rfl⟩
        rw [HTb.out _ (by have := HP.out; generalize (2 : Int) ^ G.toNat = P at *; first | (unfold wrap64; omega) | rw [IntWalk.i64_in P (by omega), IntWalk.i64_in _ (by omega)])]
        go_wp2_with fail
        go_ret
        exact HKb.out _ hf hb2.out
theorem countFixed_any (x y c b : Int) (W : World) :
    Calls Try.prog 36 #[.agg #[.int .i64 x, .int .i64 y], .int .i64 c, .int .i64 b] W (Nm (cfZ x y c b) W) := by
  by_cases hk : OkZ x y
  · exact countFixed_good x y c b W hk
  · exact countFixed_grid x y c b W hk
end Go.Proofs.Ytnfnandpcjgmmaa.cntU
