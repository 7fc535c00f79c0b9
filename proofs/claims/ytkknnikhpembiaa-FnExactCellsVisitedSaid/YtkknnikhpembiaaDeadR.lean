/- What the functions on dead ends answer, and what their law asks. -/
import Derived.Test.YtkknnikhpembiaaDeadQ
namespace Go.Proofs.Ytkknnikhpembiaa.deadR
open gridP gridQ bitP mazeP mazeQ reachP reachM reachN reachD forest deadP deadQ
set_option linter.unusedVariables false

/-- The numbers below n that have a property, in order. -/
def clN (p : Nat → Bool) : Nat → List Int
  | 0 => []
  | n + 1 => if p n = true then clN p n ++ [(n : Int)] else clN p n
theorem clN_len (p : Nat → Bool) : ∀ n, (clN p n).length = cnt p n
  | 0 => rfl
  | n + 1 => by
    unfold clN cnt
    rw [← clN_len p n]
    split <;> simp
theorem cnt_max (p : Nat → Bool) : ∀ n, cnt p n ≤ n
  | 0 => Nat.le_refl _
  | n + 1 => by
    have := cnt_max p n
    unfold cnt; split <;> omega
theorem clN_mem (p : Nat → Bool) (u : Int) : ∀ n, u ∈ clN p n ↔ ∃ k : Nat, u = k ∧ k < n ∧ p k = true
  | 0 => by simp [clN]
  | n + 1 => by
    unfold clN
    split
    · rename_i h
      rw [List.mem_append, clN_mem p u n]
      refine ⟨?_, fun ⟨k, e, hk, hp⟩ => ?_⟩
      · rintro (⟨k, e, hk, hp⟩ | h')
        · exact ⟨k, e, by omega, hp⟩
        · exact ⟨n, by simpa using h', by omega, h⟩
      · rcases Nat.lt_or_ge k n with h' | h'
        · exact .inl ⟨k, e, h', hp⟩
        · obtain rfl : k = n := by omega
          right; simp [e]
    · rename_i h
      rw [clN_mem p u n]
      refine ⟨fun ⟨k, e, hk, hp⟩ => ⟨k, e, by omega, hp⟩, fun ⟨k, e, hk, hp⟩ => ⟨k, e, ?_, hp⟩⟩
      rcases Nat.lt_or_ge k n with h' | h'
      · exact h'
      · obtain rfl : k = n := by omega
        exact absurd hp h

def deB (x y z : Int) (k : Nat) : Bool := decide ((wlZ x y z k).length = 1)
def jnB (x y z : Int) (k : Nat) : Bool := decide (3 ≤ (wlZ x y z k).length)
/-- Whether a cell has just two ways, which are opposite. -/
def csB (x y z : Int) (k : Nat) : Bool := decide ((wlZ x y z k).length = 2 ∧ (wlZ x y z k).getD 1 0 - (wlZ x y z k).getD 0 0 = 2)
def deL (x y z : Int) : List Int := if OkM x y z then clN (deB x y z) (cN x y) else []
def jnL (x y z : Int) : List Int := if OkM x y z then clN (jnB x y z) (cN x y) else []
def csZ (x y z : Int) : Int := if OkM x y z then ((cnt (csB x y z) (cN x y) : Nat) : Int) else 0
def bsN (x y z : Int) : Nat → Int
  | 0 => 0
  | n + 1 => bsN x y z n + if 0 < (wlZ x y z n).length then ((wlZ x y z n).length : Int) - 2 else 0
def bsZ (x y z : Int) : Int := if OkM x y z then bsN x y z (cN x y) else 0
/-- The first element of a list that is not in another one, -1 where there is none. -/
def fsZ (K l : List Int) : Int := (l.find? fun k => !decide (k ∈ K)).getD (-1)
def atZ (x y z : Int) (K : List Int) : Int := fsZ K (deL x y z)
def fd1 (x y z a : Int) : Int := sgZ x y z (gpZ x y a ((wlZ x y z a).getD 0 0)) false
def fdN (x y : Int) (K : List Int) : Nat → Int → Int
  | 0, z => z
  | f + 1, z => if atZ x y z K < 0 then z else fdN x y K f (fd1 x y z (atZ x y z K))
def keB (x y z : Int) (K : List Int) : Bool := K.all fun a => hasB x y z a
def fdZ (x y z : Int) (K : List Int) : Int := if keB x y z K = true then fdN x y K 24 z else z

theorem fs_cons (K : List Int) (u : Int) (l : List Int) : fsZ K (u :: l) = if u ∈ K then fsZ K l else u := by
  unfold fsZ
  by_cases h : u ∈ K
  · rw [if_pos h, List.find?_cons_of_neg (by simp [h])]
  · rw [if_neg h, List.find?_cons_of_pos (by simp [h])]; rfl
theorem fs_spec (K : List Int) : ∀ (l : List Int), (∀ u ∈ l, 0 ≤ u) → (fsZ K l < 0 ∧ ∀ u ∈ l, u ∈ K) ∨ (0 ≤ fsZ K l ∧ fsZ K l ∈ l ∧ fsZ K l ∉ K)
  | [], _ => .inl ⟨by unfold fsZ; simp, fun u hu => by cases hu⟩
  | u :: l, h => by
    rw [fs_cons]
    by_cases hu : u ∈ K
    · rw [if_pos hu]
      rcases fs_spec K l (fun v hv => h v (List.mem_cons_of_mem _ hv)) with ⟨h1, h2⟩ | ⟨h1, h2, h3⟩
      · refine .inl ⟨h1, fun v hv => ?_⟩
        rcases List.mem_cons.1 hv with e | e
        · rw [e]; exact hu
        · exact h2 v e
      · exact .inr ⟨h1, List.mem_cons_of_mem _ h2, h3⟩
    · rw [if_neg hu]
      exact .inr ⟨h u (by simp), by simp, hu⟩

section
variable {x y : Int}
theorem de_mem {o : Nat} (hk : OkZ x y) (ho : o < 2 ^ gN x y) (u : Int) : u ∈ deL x y o ↔ ∃ c : Nat, u = c ∧ c < cN x y ∧ dg x y o c = 1 := by
  unfold deL
  rw [if_pos (okm hk ho), clN_mem]
  refine exists_congr fun c => and_congr_right fun _ => and_congr_right fun _ => ?_
  unfold deB; rw [decide_eq_true_iff, wl_dg]
theorem de_pos {z : Int} : ∀ u ∈ deL x y z, 0 ≤ u := fun u hu => by
  unfold deL at hu
  split at hu
  · obtain ⟨c, e, -⟩ := (clN_mem _ _ _).1 hu; omega
  · cases hu
/-- A round of filling. -/
theorem at_spec {o : Nat} (hk : OkZ x y) (ho : o < 2 ^ gN x y) (K : List Int) :
    (atZ x y o K < 0 ∧ ∀ c, c < cN x y → dg x y o c = 1 → (c : Int) ∈ K) ∨
    ∃ c q g : Nat, atZ x y o K = (c : Int) ∧ c < cN x y ∧ (c : Int) ∉ K ∧ wlZ x y o c = [(q : Int)] ∧ q < 4 ∧ gpZ x y c q = (g : Int) ∧ g < gN x y ∧ bt o g = 1 ∧ fd1 x y o c = ((o - 2 ^ g : Nat) : Int) ∧ o - 2 ^ g < 2 ^ gN x y ∧ pcN o (gN x y) = pcN (o - 2 ^ g) (gN x y) + 1 ∧
      (lp x y o = 0 → lp x y (o - 2 ^ g : Nat) = 0) ∧ ∀ a b, a < cN x y → b < cN x y → a ≠ c → b ≠ c → dZ (stN x y (o - 2 ^ g : Nat)) (cN x y) a b = dZ (stN x y o) (cN x y) a b := by
  unfold atZ
  rcases fs_spec K (deL x y o) de_pos with ⟨h1, h2⟩ | ⟨h1, h2, h3⟩
  · exact .inl ⟨h1, fun c hc hd => h2 _ ((de_mem hk ho _).2 ⟨c, rfl, hc, hd⟩)⟩
  · right
    obtain ⟨c, e, hc, hd⟩ := (de_mem hk ho _).1 h2
    rw [e] at h3 ⊢
    obtain ⟨q, v, g, w1, w2, w3, w4, w5, w6, w7, w8, w9, w10⟩ := fill_one hk ho hc hd
    refine ⟨c, q, g, rfl, hc, h3, w1, w2, w4, w5, w6, ?_, w7, w8, w9, w10⟩
    unfold fd1
    rw [w1, show ([(q : Int)] : List Int).getD 0 0 = (q : Int) from rfl, w4]
    have hs : sgB x y o g = true := decide_eq_true ⟨okm hk ho, by omega, by unfold gN at w5; omega⟩
    unfold sgZ
    rw [if_pos hs, if_pos (by rw [bitZ_bt (by omega) (by omega), Int.toNat_natCast, Int.toNat_natCast, w6]; rfl), if_neg (by decide), Int.natCast_sub (bt_take w6).1]
    simp
/-- What filling leaves. -/
theorem fd_end {K : List Int} (hk : OkZ x y) : ∀ (f o : Nat), o < 2 ^ gN x y → pcN o (gN x y) ≤ f → ∃ o' : Nat, fdN x y K f o = (o' : Int) ∧ o' < 2 ^ gN x y ∧ (lp x y o = 0 → lp x y o' = 0) ∧ (∀ c, c < cN x y → dg x y o' c = 1 → (c : Int) ∈ K) ∧
    ∀ a b, a < cN x y → b < cN x y → (a : Int) ∈ K → (b : Int) ∈ K → dZ (stN x y o') (cN x y) a b = dZ (stN x y o) (cN x y) a b
  | 0, o, ho, hf => by
    refine ⟨o, rfl, ho, fun h => h, fun c hc hd => ?_, fun _ _ _ _ _ _ => rfl⟩
    rcases at_spec hk ho K with ⟨-, h⟩ | ⟨c', q, g, -, -, -, -, -, -, -, -, -, -, h, -⟩
    · exact h c hc hd
    · omega
  | f + 1, o, ho, hf => by
    rcases at_spec hk ho K with ⟨h1, h⟩ | ⟨c, q, g, h1, h2, h3, -, -, -, -, -, h4, h5, h6, h7, h8⟩
    · exact ⟨o, by unfold fdN; rw [if_pos h1], ho, fun h => h, h, fun _ _ _ _ _ _ => rfl⟩
    · obtain ⟨o', e, r1, r2, r3, r4⟩ := fd_end (K := K) hk f (o - 2 ^ g) h5 (by omega)
      refine ⟨o', by rw [fdN, if_neg (by omega), h1, h4]; exact e, r1, fun h => r2 (h7 h), r3, fun a b ha hb hka hkb => ?_⟩
      rw [r4 a b ha hb hka hkb]
      exact h8 a b ha hb (fun e => h3 (by rw [← e]; exact hka)) (fun e => h3 (by rw [← e]; exact hkb))
theorem pc_le24 (o : Nat) : pcN o (gN x y) ≤ gN x y := pcN_le o _
theorem cp_pc2 {o : Nat} (hk : OkZ x y) (ho : o < 2 ^ gN x y) : cpZ x y o = ((pcN o (gN x y) : Nat) : Int) := by
  have hv := okm hk ho
  have := pc_all hv
  unfold cpZ
  rw [if_pos hv, ← this]
  simp [gN]
theorem bs_sum (z : Int) : ∀ n, bsN x y z n = (smN (fun c => (wlZ x y z c).length) n : Int) - 2 * n + 2 * cnt (fun c => (wlZ x y z c).length == 0) n
  | 0 => rfl
  | n + 1 => by
    unfold bsN smN cnt
    rw [bs_sum z n]
    by_cases h : 0 < (wlZ x y z n).length
    · rw [if_pos h, if_neg (by simp; intro e; rw [e] at h; simp at h)]; omega
    · rw [if_neg h, if_pos (by simp; exact List.eq_nil_of_length_eq_zero (by omega))]; omega
theorem nn3 (hk : OkZ x y) : x * y = (cN x y : Int) ∧ 1 ≤ cN x y ∧ cN x y ≤ 16 := by
  obtain ⟨h1, h2, h3, h4⟩ := hk
  have := (mul_bd x y h1 h2 h3 h4).1
  unfold cN; omega
theorem de_len (x y z : Int) : (deL x y z).length ≤ 16 := by
  unfold deL; split
  · rename_i h
    rw [clN_len]
    have := cnt_max (deB x y z) (cN x y)
    have := (nn3 h.1).2.2
    omega
  · simp
theorem jn_len (x y z : Int) : (jnL x y z).length ≤ 16 := by
  unfold jnL; split
  · rename_i h
    rw [clN_len]
    have := cnt_max (jnB x y z) (cN x y)
    have := (nn3 h.1).2.2
    omega
  · simp
/-- What the law of dead ends asks. -/
theorem deads {o : Nat} (hk : OkZ x y) (ho : o < 2 ^ gN x y) (hl : lp x y o = 0) (hp : pt x y o = 1) {a b : Nat} (ha : a < cN x y) (hb : b < cN x y) :
    (1 < cN x y → bsZ x y o = -2 ∧ 2 ≤ (deL x y o).length) ∧ (∀ u ∈ deL x y o, u ∉ jnL x y o) ∧ cpZ x y (fdZ x y o [(a : Int), (b : Int)]) = dsZ x y o a b ∧ dsZ x y (fdZ x y o [(a : Int), (b : Int)]) a b = dsZ x y o a b ∧
    csZ x y o ≤ x * y ∧ cpZ x y (fdZ x y o []) = 0 := by
  have hv := okm hk ho
  obtain ⟨n1, n2, n3⟩ := nn3 hk
  have hg24 : gN x y ≤ 24 := by have := gps_bd hk.1 hk.2.1 hk.2.2.1 hk.2.2.2; unfold gN; omega
  have hpc24 : pcN o (gN x y) ≤ 24 := Nat.le_trans (pc_le24 o) hg24
  have hhas : ∀ {z : Int}, OkM x y z → ∀ c : Nat, c < cN x y → hasB x y z c = true := fun hz c hc => decide_eq_true ⟨hz, by omega, by omega⟩
  have hds : ∀ {o' : Nat}, o' < 2 ^ gN x y → dsZ x y o' a b = dZ (stN x y o') (cN x y) a b := fun h' => by
    unfold dsZ; rw [if_pos ⟨hhas (okm hk h') a ha, hhas (okm hk h') b hb⟩]; simp
  have hcn : Cn x y o a b := by
    obtain ⟨l, h1, h2, h3, -⟩ := least_of (x := x) (y := y) (o := o) ha
    obtain ⟨l', h1', h2', h3', -⟩ := least_of (x := x) (y := y) (o := o) hb
    have hone : cnt (isLeast (stN x y o) (cN x y)) (cN x y) ≤ 1 := by
      have : pt x y o = cnt (isLeast (stN x y o) (cN x y)) (cN x y) := by unfold pt; exact cp_cnt _ _ _
      omega
    have := cnt_one hone (show l < cN x y by omega) (show l' < cN x y by omega) h3 h3'
    subst this
    exact cn_trans h2 (cn_symm h2')
  refine ⟨fun hN => ?_, fun u hu hj => ?_, ?_⟩
  · have hiso : cnt (fun c => dg x y o c == 0) (cN x y) = 0 := by
      obtain ⟨i1, i2⟩ := iso_le (x := x) (y := y) (o := o)
      rcases Nat.eq_zero_or_pos (cnt (fun c => dg x y o c == 0) (cN x y)) with h | h
      · exact h
      · have h0 := i2 (by omega)
        have h5 := dg_sum hk ho
        rw [smN_zero h0] at h5
        unfold lp at hl; omega
    have hsum := dg_sum hk ho
    have e1 : smN (fun c => (wlZ x y o c).length) (cN x y) = smN (dg x y o) (cN x y) := smN_ext fun c _ => wl_dg o c
    have e2 : cnt (fun c => (wlZ x y o c).length == 0) (cN x y) = cnt (fun c => dg x y o c == 0) (cN x y) := cnt_ext fun c _ => by rw [wl_dg]
    refine ⟨?_, ?_⟩
    · unfold bsZ; rw [if_pos hv, bs_sum, e1, e2, hiso, hsum]
      unfold lp at hl; omega
    · unfold deL; rw [if_pos hv, clN_len]
      have e3 : cnt (deB x y o) (cN x y) = cnt (fun c => dg x y o c == 1) (cN x y) := cnt_ext fun c _ => by
        unfold deB; rw [wl_dg, Bool.eq_iff_iff, decide_eq_true_iff, beq_iff_eq]
      have := (ends_low hk ho hl).1
      omega
  · obtain ⟨c, rfl, hc, hd⟩ := (de_mem hk ho u).1 hu
    unfold jnL at hj
    rw [if_pos hv, clN_mem] at hj
    obtain ⟨c', e, -, h⟩ := hj
    obtain rfl : c = c' := by omega
    have := of_decide_eq_true h
    rw [wl_dg] at this; omega
  · have hke : keB x y o [(a : Int), (b : Int)] = true := by unfold keB; simp [hhas hv a ha, hhas hv b hb]
    obtain ⟨o1, e1, r1, r2, r3, r4⟩ := fd_end (K := [(a : Int), (b : Int)]) hk 24 o ho hpc24
    obtain ⟨o2, e2, s1, s2, s3, -⟩ := fd_end (K := []) hk 24 o ho hpc24
    have hf1 : fdZ x y o [(a : Int), (b : Int)] = (o1 : Int) := by unfold fdZ; rw [if_pos hke, e1]
    have hf2 : fdZ x y o [] = (o2 : Int) := by unfold fdZ; rw [if_pos (show keB x y o [] = true from rfl), e2]
    have hd := r4 a b ha hb (by simp) (by simp)
    have hcn1 : Cn x y o1 a b := (cn_iff ha b).1 (by rw [hd]; exact (cn_iff ha b).2 hcn)
    rw [hf1, hf2, hds ho, hds r1, hd, cp_pc2 hk r1, cp_pc2 hk s1]
    refine ⟨?_, rfl, ?_, ?_⟩
    · rw [one_left hk r1 (r2 hl) ha hb hcn1 fun c hc h => by have := r3 c hc h; simp at this; omega, hd]
    · unfold csZ; rw [if_pos hv]
      have := cnt_max (csB x y o) (cN x y)
      omega
    · have hc0 : cnt (fun c => dg x y o2 c == 1) (cN x y) = 0 := cnt_none fun c hc => by
        have h := fun h => s3 c hc h
        simp at h
        simpa using h
      have := (no_ends hk s1 (s2 hl) (by omega)).1
      omega
end
end Go.Proofs.Ytkknnikhpembiaa.deadR
