/- The list of the perfect mazes of a maze, without the program. -/
import Derived.Test.YtnfnandpcjgmmaaCntQ
import Derived.Test.YtnfnandpcjgmmaaPerfP
namespace Go.Proofs.Ytnfnandpcjgmmaa.cntL
open gridP gridQ bitP mazeP mazeQ reachP reachM reachN forest deadP detP trsP barP barQ trcP cntQ
open perfP (wjB wj_iff)
set_option linter.unusedVariables false

/-- The mazes with those of c, and need more of the first k gaps of o, none in a loop. -/
def ltN (x y : Int) (o : Nat) : Nat → Nat → Nat → List Nat
  | _, c, 0 => [c]
  | 0, _, _ + 1 => []
  | k + 1, c, need + 1 => if need + 1 > k + 1 then [] else ltN x y o k c (need + 1) ++ if bt o k = 1 ∧ wjB x y c k = true then ltN x y o k (c + 2 ^ k) need else []
theorem lt_zero (x y : Int) (o k c : Nat) : ltN x y o k c 0 = [c] := by cases k <;> rfl
theorem lt_none (x y : Int) (o c need : Nat) : ltN x y o 0 c (need + 1) = [] := rfl
theorem lt_next (x y : Int) (o k c need : Nat) : ltN x y o (k + 1) c (need + 1) = if need + 1 > k + 1 then [] else ltN x y o k c (need + 1) ++ if bt o k = 1 ∧ wjB x y c k = true then ltN x y o k (c + 2 ^ k) need else [] := rfl
theorem lt_len (x y : Int) (o : Nat) : ∀ k c need, (ltN x y o k c need).length ≤ 2 ^ k
  | k, c, 0 => by rw [lt_zero]; exact Nat.one_le_two_pow
  | 0, c, need + 1 => by rw [lt_none]; simp
  | k + 1, c, need + 1 => by
    rw [lt_next]
    have h1 := lt_len x y o k c (need + 1)
    have h2 := lt_len x y o k (c + 2 ^ k) need
    have e : 2 ^ (k + 1) = 2 ^ k + 2 ^ k := by rw [Nat.pow_succ]; omega
    split
    · simp
    · split
      · rw [List.length_append]; omega
      · rw [List.append_nil]; omega
/-- Which numbers s below 2 to the power of k are in the list, beside c. -/
def lsB (x y : Int) (o k c need s : Nat) : Bool := decide ((∀ g, g < k → bt s g = 1 → bt o g = 1) ∧ pcN s k = need ∧ lp x y (c + s) = 0)
theorem range_two (k : Nat) : List.range (2 ^ (k + 1)) = List.range (2 ^ k) ++ (List.range (2 ^ k)).map (2 ^ k + ·) := by
  rw [show 2 ^ (k + 1) = 2 ^ k + 2 ^ k by rw [Nat.pow_succ]; omega, List.range_add]
theorem pc_high {s k : Nat} (h : s < 2 ^ k) : pcN (2 ^ k + s) (k + 1) = pcN s k + 1 := by
  show pcN (2 ^ k + s) k + bt (2 ^ k + s) k = _
  rw [bt_hi h]
  congr 1
  have : ∀ j, j ≤ k → pcN (2 ^ k + s) j = pcN s j := fun j => by
    induction j with
    | zero => intro _; rfl
    | succ j ih => intro hj; show pcN (2 ^ k + s) j + bt (2 ^ k + s) j = pcN s j + bt s j; rw [ih (by omega), bt_lo (by omega)]
  exact this k (Nat.le_refl _)
theorem pc_low {s k : Nat} (h : s < 2 ^ k) : pcN s (k + 1) = pcN s k := by
  show pcN s k + bt s k = _
  rw [bt_lt h (Nat.le_refl _)]; rfl
theorem pc_zero {s k : Nat} (h : s < 2 ^ k) (h0 : pcN s k = 0) : s = 0 := zero_of_bits h (pc_none h0)
section
variable {x y : Int}
/-- A set without loops has no loops when some of it are left out. -/
theorem lp_sub (hk : OkZ x y) {o o' : Nat} (ho : o < 2 ^ gN x y) (ho' : o' < 2 ^ gN x y) (hs : ∀ g, g < gN x y → bt o g = 1 → bt o' g = 1) (h : lp x y o' = 0) : lp x y o = 0 := by
  rw [← all_bridges hk ho] 
  rw [← all_bridges hk ho'] at h
  intro g hg hb hcn
  have hb' := hs g hg hb
  refine h g hg hb' (cn_mono (okm hk (Nat.lt_of_le_of_lt (Nat.sub_le _ _) ho)) (okm hk (Nat.lt_of_le_of_lt (Nat.sub_le _ _) ho')) (fun q hq hbq => ?_) hcn)
  obtain ⟨t1, t2, t3⟩ := bt_take hb
  obtain ⟨s1, s2, s3⟩ := bt_take hb'
  have e1 := bt_add (n := o - 2 ^ g) (g := g) t2 q
  have e2 := bt_add (n := o' - 2 ^ g) (g := g) s2 q
  rw [t3] at e1
  rw [s3] at e2
  by_cases e : q = g
  · subst e; omega
  · rw [if_neg e] at e1 e2
    rw [← e2]; exact hs q hq (by rw [e1]; exact hbq)
theorem bt_low {c s k : Nat} (hc : ∀ g, g < k → bt c g = 0) (hs : s < 2 ^ k) (g : Nat) : bt (c + s) g = if g < k then bt s g else bt c g := by
  obtain ⟨d, rfl⟩ : ∃ d, c = 2 ^ k * d := by
    refine ⟨c / 2 ^ k, ?_⟩
    have h1 : c % 2 ^ k = 0 := zero_of_bits (Nat.mod_lt _ (Nat.pow_pos (by decide))) fun g hg => by rw [forest.bt_mod, if_pos hg]; exact hc g hg
    have := Nat.div_add_mod c (2 ^ k)
    omega
  have h := bt_test (2 ^ k * d + s) g
  rw [Nat.testBit_two_pow_mul_add _ hs] at h
  by_cases hg : g < k
  · rw [if_pos hg]
    rw [if_pos hg, bt_test, decide_eq_decide] at h
    have h1 := bt_le (2 ^ k * d + s) g
    have h2 := bt_le s g
    omega
  · rw [if_neg hg]
    rw [if_neg hg] at h
    have h' := bt_test (2 ^ k * d) g
    rw [Nat.testBit_two_pow_mul, decide_eq_true (show k ≤ g by omega), Bool.true_and, h, decide_eq_decide] at h'
    have h1 := bt_le (2 ^ k * d + s) g
    have h2 := bt_le (2 ^ k * d) g
    omega
/-- The list is all of them, in ascending order. -/
theorem lt_filter (hk : OkZ x y) (o : Nat) : ∀ k c need, k ≤ gN x y → c < 2 ^ gN x y → (∀ g, g < k → bt c g = 0) → lp x y c = 0 → ltN x y o k c need = ((List.range (2 ^ k)).filter (lsB x y o k c need)).map (c + ·)
  | k, c, 0, hg, hc, hl, hp => by
    rw [lt_zero]
    have : (List.range (2 ^ k)).filter (lsB x y o k c 0) = [0] := by
      have h0 : lsB x y o k c 0 0 = true := by
        unfold lsB
        refine decide_eq_true ⟨fun g _ h => by rw [bt_zero] at h; omega, ?_, by rw [Nat.add_zero]; exact hp⟩
        have : ∀ j, pcN 0 j = 0 := fun j => by
          induction j with
          | zero => rfl
          | succ j ih => rw [pcN, ih]; simp
        exact this k
      obtain ⟨n, hn⟩ : ∃ n, 2 ^ k = n + 1 := ⟨2 ^ k - 1, by have := Nat.one_le_two_pow (n := k); omega⟩
      rw [hn, List.range_succ_eq_map, List.filter_cons_of_pos h0]
      congr 1
      rw [List.filter_eq_nil_iff]
      intro s hs h
      obtain ⟨j, hj, rfl⟩ := List.mem_map.1 hs
      have hj := List.mem_range.1 hj
      have := (of_decide_eq_true h).2.1
      have := pc_zero (s := j + 1) (k := k) (by omega) this
      omega
    rw [this]; simp
  | 0, c, need + 1, _, _, _, _ => by
    rw [lt_none]
    have : (List.range (2 ^ 0)).filter (lsB x y o 0 c (need + 1)) = [] := by
      rw [List.filter_eq_nil_iff]
      intro s _ h
      have := (of_decide_eq_true h).2.1
      simp [pcN] at this
    rw [this]; rfl
  | k + 1, c, need + 1, hg, hc, hl, hp => by
    rw [lt_next, range_two, List.filter_append, List.map_append]
    by_cases hn : need + 1 > k + 1
    · rw [if_pos hn]
      have h1 : ∀ s, s < 2 ^ (k + 1) → lsB x y o (k + 1) c (need + 1) s = false := fun s _ => by
        unfold lsB
        rw [decide_eq_false_iff_not]
        rintro ⟨-, h, -⟩
        have := pcN_le s (k + 1)
        omega
      have e2 : 2 ^ (k + 1) = 2 ^ k + 2 ^ k := by rw [Nat.pow_succ]; omega
      have f1 : (List.range (2 ^ k)).filter (lsB x y o (k + 1) c (need + 1)) = [] := by
        rw [List.filter_eq_nil_iff]
        intro s hs h
        rw [h1 s (by have := List.mem_range.1 hs; omega)] at h; cases h
      have f2 : ((List.range (2 ^ k)).map (2 ^ k + ·)).filter (lsB x y o (k + 1) c (need + 1)) = [] := by
        rw [List.filter_eq_nil_iff]
        intro s hs h
        obtain ⟨j, hj, rfl⟩ := List.mem_map.1 hs
        rw [h1 _ (by have := List.mem_range.1 hj; omega)] at h; cases h
      rw [f1, f2]; rfl
    · rw [if_neg hn]
      have ih1 := lt_filter hk o k c (need + 1) (by omega) hc (fun g hg => hl g (by omega)) hp
      have hbk : bt c k = 0 := hl k (by omega)
      have hlo : ∀ s, s < 2 ^ k → c + s < 2 ^ gN x y := fun s hs => by
        have hb := bt_low (c := c) (s := s) (k := k) (fun g hg => hl g (by omega)) hs
        apply Classical.byContradiction
        intro hge
        have h1 : (c + s) % 2 ^ gN x y = c + s := Nat.eq_of_testBit_eq fun g => by
          rw [bt_test, bt_test, forest.bt_mod]
          by_cases h : g < gN x y
          · rw [if_pos h]
          · rw [if_neg h, hb, if_neg (by omega), bt_lt hc (by omega)]
        have := Nat.mod_lt (c + s) (Nat.pow_pos (n := gN x y) (show 0 < 2 by decide))
        omega
      congr 1
      · rw [ih1]
        congr 1
        refine List.filter_congr fun s hs => ?_
        have hs := List.mem_range.1 hs
        unfold lsB
        rw [decide_eq_decide, pc_low hs]
        refine and_congr ⟨fun h g hg hb => ?_, fun h g hg hb => h g (by omega) hb⟩ Iff.rfl
        by_cases e : g = k
        · subst e; rw [bt_lt hs (Nat.le_refl _)] at hb; omega
        · exact h g (by omega) hb
      · by_cases hj : bt o k = 1 ∧ wjB x y c k = true
        · rw [if_pos hj]
          obtain ⟨hj1, hj2⟩ := hj
          have hw := (wj_iff hk hc (show k < gN x y by omega)).1 hj2
          have hlt := add_lt hc (show k < gN x y by omega) hbk
          have hp2 : lp x y (c + 2 ^ k) = 0 := by rw [(lp_add hk hc (show k < gN x y by omega) hbk).2 hw.2]; exact hp
          have ih2 := lt_filter hk o k (c + 2 ^ k) need (by omega) hlt (fun g hg => by rw [bt_add hbk, if_neg (by omega)]; exact hl g (by omega)) hp2
          rw [ih2, List.filter_map, List.map_map]
          have e1 : ((c + ·) ∘ (2 ^ k + ·)) = ((c + 2 ^ k) + ·) := by funext s; simp [Nat.add_assoc]
          rw [e1]
          congr 1
          refine List.filter_congr fun s hs => ?_
          have hs := List.mem_range.1 hs
          show _ = lsB x y o (k + 1) c (need + 1) (2 ^ k + s)
          unfold lsB
          rw [decide_eq_decide, pc_high hs, Nat.add_assoc]
          refine and_congr ⟨fun h g hg hb => ?_, fun h g hg hb => h g (by omega) (by rw [bt_lo hg]; exact hb)⟩ (and_congr (by omega) Iff.rfl)
          by_cases e : g = k
          · subst e; exact hj1
          · exact h g (by omega) (by rw [← bt_lo (G := k) (o := s) (by omega)]; exact hb)
        · rw [if_neg hj]
          have : ((List.range (2 ^ k)).map (2 ^ k + ·)).filter (lsB x y o (k + 1) c (need + 1)) = [] := by
            rw [List.filter_eq_nil_iff]
            intro s hs h
            obtain ⟨j, hjr, rfl⟩ := List.mem_map.1 hs
            have hjr := List.mem_range.1 hjr
            obtain ⟨t1, -, t3⟩ := of_decide_eq_true h
            have hbo := t1 k (Nat.lt_succ_self k) (bt_hi hjr)
            apply hj
            refine ⟨hbo, (wj_iff hk hc (show k < gN x y by omega)).2 ⟨hbk, fun hcn => ?_⟩⟩
            have hlt := add_lt hc (show k < gN x y by omega) hbk
            have hc2 : ∀ g, g < k → bt (c + 2 ^ k) g = 0 := fun g hg => by rw [bt_add hbk, if_neg (by omega)]; exact hl g (by omega)
            have hb2 := bt_low hc2 hjr
            have hlt2 : c + 2 ^ k + j < 2 ^ gN x y := by
              apply Classical.byContradiction
              intro hge
              have h1 : (c + 2 ^ k + j) % 2 ^ gN x y = c + 2 ^ k + j := Nat.eq_of_testBit_eq fun g => by
                rw [bt_test, bt_test, forest.bt_mod]
                by_cases h : g < gN x y
                · rw [if_pos h]
                · rw [if_neg h, hb2, if_neg (by omega), bt_lt hlt (by omega)]
              have := Nat.mod_lt (c + 2 ^ k + j) (Nat.pow_pos (n := gN x y) (show 0 < 2 by decide))
              omega
            have h0 := lp_sub hk hlt hlt2 (fun g _ hb => by
              rw [hb2]
              by_cases hg : g < k
              · rw [hc2 g hg] at hb; omega
              · rw [if_neg hg]; exact hb) (by rw [Nat.add_assoc]; exact t3)
            have h1 := (lp_add hk hc (show k < gN x y by omega) hbk).1 hcn
            omega
          rw [this]; rfl
end
end Go.Proofs.Ytnfnandpcjgmmaa.cntL
