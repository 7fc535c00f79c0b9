/- The generator behind the draws comes to every state: multiplication and addition modulo 2^64 with full period. -/
import Derived.Test.YthgnhamokikhkaaPlain
import Derived.Test.YthgnhamokikhkaaDrwA
import Derived.Test.YthgnhamokikhkaaForest

namespace Go.Proofs.Ythgnhamokikhkaa.lcgP
set_option linter.unusedVariables false

def nx (h : Int) : Int := h * 6364136223846793005 + 1442695040888963407
def it : Nat → Int → Int
  | 0, h => h
  | n + 1, h => it n (nx h)
theorem it_add (n : Nat) : ∀ m h, it (m + n) h = it n (it m h)
  | 0, h => by rw [Nat.zero_add]; rfl
  | m + 1, h => by rw [show m + 1 + n = (m + n) + 1 by omega]; exact it_add n m (nx h)
theorem two_pow : ∀ k : Nat, ∃ u v : Int, ∀ h, it (2 ^ k) h = (1 + 4 * 2 ^ k * u) * h + 2 ^ k * (1 + 2 * v)
  | 0 => ⟨1591034055961698251, 721347520444481703, fun h => by
      show nx h = _
      unfold nx
      simp only [Int.pow_zero]
      omega⟩
  | k + 1 => by
    obtain ⟨u, v, ih⟩ := two_pow k
    refine ⟨u + 2 * 2 ^ k * (u * u), v + 2 ^ k * u * (1 + 2 * v), fun h => ?_⟩
    rw [show 2 ^ (k + 1) = 2 ^ k + 2 ^ k by rw [Nat.pow_succ]; omega, it_add, ih, ih, Int.pow_succ]
    generalize (2 : Int) ^ k = P
    grind
theorem reach : ∀ (k : Nat) (h s : Int), ∃ n, n < 2 ^ k ∧ ∃ q, it n h = s + 2 ^ k * q
  | 0, h, s => ⟨0, by decide, h - s, by simp only [it, Int.pow_zero]; omega⟩
  | k + 1, h, s => by
    obtain ⟨n, hn, q, e⟩ := reach k h s
    obtain ⟨u, v, ht⟩ := two_pow k
    have hp : 2 ^ (k + 1) = 2 ^ k + 2 ^ k := by rw [Nat.pow_succ]; omega
    rcases (show q % 2 = 0 ∨ q % 2 = 1 by omega) with h0 | h1
    · obtain ⟨r, rfl⟩ : ∃ r, q = 2 * r := ⟨q / 2, by omega⟩
      refine ⟨n, by omega, r, ?_⟩
      rw [e, Int.pow_succ]
      generalize (2 : Int) ^ k = P
      grind
    · obtain ⟨r, rfl⟩ : ∃ r, q = 2 * r + 1 := ⟨q / 2, by omega⟩
      refine ⟨n + 2 ^ k, by omega, r + 1 + v + 2 * u * (s + 2 ^ k * (2 * r + 1)), ?_⟩
      rw [it_add, e, ht, Int.pow_succ]
      generalize (2 : Int) ^ k = P
      grind

/-- The next state, as the machine's numbers have it. -/
def stp (h : Int) : Int := IntKind.i64.wrap (IntKind.i64.wrap (h * 6364136223846793005) + 1442695040888963407)
def itw : Nat → Int → Int
  | 0, h => h
  | n + 1, h => itw n (stp h)
theorem wr_is (z : Int) : (∃ c, IntKind.i64.wrap z = z + 18446744073709551616 * c) ∧ -9223372036854775808 ≤ IntKind.i64.wrap z ∧ IntKind.i64.wrap z ≤ 9223372036854775807 := by
  rw [IntKind.wrap_i64]
  exact ⟨⟨-((z + 9223372036854775808) / 18446744073709551616), by omega⟩, by omega, by omega⟩
theorem stp_is (h : Int) : (∃ q, stp h = nx h + 18446744073709551616 * q) ∧ -9223372036854775808 ≤ stp h ∧ stp h ≤ 9223372036854775807 := by
  unfold stp nx
  obtain ⟨⟨c, e1⟩, -⟩ := wr_is (h * 6364136223846793005)
  obtain ⟨⟨d, e2⟩, b⟩ := wr_is (IntKind.i64.wrap (h * 6364136223846793005) + 1442695040888963407)
  exact ⟨⟨c + d, by rw [e2, e1]; omega⟩, b⟩
theorem itw_is : ∀ (n : Nat) (h h' : Int) (q : Int), h' = h + 18446744073709551616 * q → ∃ q', itw n h' = it n h + 18446744073709551616 * q'
  | 0, h, h', q, e => ⟨q, e⟩
  | n + 1, h, h', q, e => by
    obtain ⟨⟨r, hr⟩, -⟩ := stp_is h'
    exact itw_is n (nx h) (stp h') (q * 6364136223846793005 + r) (by rw [hr, e]; unfold nx; grind)
theorem itw_stp : ∀ (n : Nat) (h : Int), itw n (stp h) = stp (itw n h)
  | 0, h => rfl
  | n + 1, h => itw_stp n (stp h)
theorem itw_bd : ∀ (n : Nat) (h : Int), -9223372036854775808 ≤ h ∧ h ≤ 9223372036854775807 → -9223372036854775808 ≤ itw n h ∧ itw n h ≤ 9223372036854775807
  | 0, h, hb => hb
  | n + 1, h, hb => itw_bd n _ (stp_is h).2
/-- Every state comes. -/
theorem comes (h s : Int) (h1 : -9223372036854775808 ≤ s) (h2 : s ≤ 9223372036854775807) : ∃ n, n < 18446744073709551616 ∧ stp (itw n h) = s := by
  obtain ⟨n, hn, q, e⟩ := reach 64 (stp h) s
  obtain ⟨r, hr⟩ := itw_is n (stp h) (stp h) 0 (by omega)
  have hb := itw_bd n (stp h) (stp_is h).2
  refine ⟨n, hn, ?_⟩
  rw [← itw_stp]
  have e2 : (2 : Int) ^ 64 = 18446744073709551616 := by decide
  rw [e2] at e
  omega

/-! ### the least number with a property -/
theorem least_some {p : Nat → Prop} (h : ∃ n, p n) : ∃ n, p n ∧ ∀ m, m < n → ¬ p m := by
  obtain ⟨n, hn⟩ := h
  induction n using Nat.strongRecOn with
  | ind n ih =>
    by_cases hm : ∃ m, m < n ∧ p m
    · obtain ⟨m, h1, h2⟩ := hm
      exact ih m h1 h2
    · exact ⟨n, hn, fun m h1 h2 => hm ⟨m, h1, h2⟩⟩
open Classical in
noncomputable def least (p : Nat → Prop) : Nat := if h : ∃ n, p n then Classical.choose (least_some h) else 0
theorem least_is {p : Nat → Prop} (h : ∃ n, p n) : p (least p) ∧ ∀ m, p m → least p ≤ m := by
  unfold least
  rw [dif_pos h]
  have := Classical.choose_spec (least_some h)
  refine ⟨this.1, fun m hm => Nat.le_of_not_lt fun hlt => this.2 m hlt hm⟩
end Go.Proofs.Ythgnhamokikhkaa.lcgP

/- What a draw leaves, told exactly: how many bytes are left, and the generator's state. -/
namespace Go.Proofs.Ythgnhamokikhkaa.drawX
open Go.ChangeShapes Go.WideShapes Go.ChangeAt Go.RowKit
open draw lcgP
set_option linter.unusedVariables false

/-- A cursor with m bytes left, and the generator at h. -/
def CurX (w : World) (g m : Nat) (h : Int) : Prop :=
  ∃ (A : Option Addr) (n c i : Nat), w.heap[g]? = some (.cells #[.slice A n c, .int .i64 i, .int .i64 h] 104 (0, 0)) ∧ i ≤ n ∧ n ≤ maxLen ∧ BytesIn w g A n ∧ m = n - i
theorem CurX.cur {w : World} {g m : Nat} {h : Int} (hc : CurX w g m h) : Cur w g := by
  obtain ⟨A, n, c, i, h1, h2, h3, h4, -⟩ := hc
  exact ⟨A, n, c, i, h, h1, h2, h3, h4⟩
theorem curX_of {w : World} {g : Nat} (hc : Cur w g) : ∃ m h, CurX w g m h := by
  obtain ⟨A, n, c, i, h, h1, h2, h3, h4⟩ := hc
  exact ⟨n - i, h, A, n, c, i, h1, h2, h3, h4, rfl⟩
theorem CurX.kept {w w' : World} {g B m : Nat} {h : Int} (hc : CurX w g m h) (hb : Below B w w') (hg : g < B) : CurX w' g m h := by
  obtain ⟨A, n, c, i, h1, h2, h3, h4, h5⟩ := hc
  exact ⟨A, n, c, i, (hb.block g hg).trans h1, h2, h3, h4.keep fun p hp => hb.cell (by omega), h5⟩
theorem CurX.put {w : World} {g m : Nat} {h : Int} (hc : CurX w g m h) {p : Addr} (hp : g < p.block) (u : Value) : CurX (w.setCell p u) g m h := by
  obtain ⟨A, n, c, i, h1, h2, h3, h4, h5⟩ := hc
  refine ⟨A, n, c, i, ?_, h2, h3, h4.keep fun q hq => World.cell?_setCell_other w p q u (fun e => by subst e; omega), h5⟩
  exact (Below.heap_setCell w p u g (by omega)).trans h1

/-- The byte that a state gives. -/
def byX (Z : Int) : Int := bits .and .i64 (bits .xor .i64 (Z / 8589934592) (Z / 35184372088832)) 255
/-- A draw of a number of which P holds; where no byte is left, what number it is. -/
def DrawnX (P : Nat → Prop) (g m : Nat) (h n : Int) (w : World) (e : Ending) (w' : World) : Prop :=
  ∃ x : Nat, P x ∧ e = .returned (.int .i64 x) ∧ w.grownBy w' (some g) ∧ ((0 < m ∧ ∃ h', CurX w' g (m - 1) h') ∨ (m = 0 ∧ CurX w' g 0 (stp h) ∧ (x : Int) = byX (stp h) % n))

theorem stp_w (h : Int) : wrap64 (wrap64 (h * 6364136223846793005) + 1442695040888963407) = stp h := by
  have e : ∀ z, wrap64 z = IntKind.i64.wrap z := fun z => by rw [IntKind.wrap_i64]; first | rfl | (unfold wrap64; omega)
  unfold stp
  rw [e, e]
theorem x_skip {w : World} {g : Nat} {A : Option Addr} {n c i : Nat} {h : Int} (hb : w.heap[g]? = some (.cells #[.slice A n c, .int .i64 i, .int .i64 h] 104 (0, 0)))
    (hi : i ≤ n) (hn : n ≤ maxLen) (hby : BytesIn w g A n) (hlt : ¬ i < n) (Z : Int) (hZ : Z = stp h) (a b : Nat) :
    DrawnX (· < 256) g (n - i) h 256 w (.returned (.int .i64 (bits .and .i64 (bits .xor .i64 (Z / 8589934592) (Z / 35184372088832)) 255))) (((w.setCell ⟨g, 2, none⟩ (.int .i64 Z)).drewN a).drewN b) := by
  obtain ⟨x, hx, e⟩ := and255 (bits .xor .i64 (Z / 8589934592) (Z / 35184372088832))
  refine ⟨x, hx, by rw [e], only_drewN (only_drewN (only_setCell (World.grownBy.refl w _) rfl _) _) _, .inr ⟨by omega, ⟨A, n, c, i, ?_, hi, hn, ?_, by omega⟩, ?_⟩⟩
  · show (w.setCell ⟨g, 2, none⟩ (.int .i64 Z)).heap[g]? = _
    simp [World.setCell, Array.getElem?_modify, hb, hZ]
  · exact bytes_setCell hby (Nat.le_refl _) _
  · unfold byX
    rw [← hZ, e]
    omega
theorem x_take {w : World} {g : Nat} {A : Option Addr} {n c i : Nat} {h : Int} (hb : w.heap[g]? = some (.cells #[.slice A n c, .int .i64 i, .int .i64 h] 104 (0, 0)))
    (hi : i < n) (hn : n ≤ maxLen) (hby : BytesIn w g A n) (X Z : Int) (a : Nat) :
    DrawnX (· < 256) g (n - i) h 256 w (.returned (.int .i64 (bits .and .i64 X 255))) (((w.setCell ⟨g, 2, none⟩ (.int .i64 Z)).drewN a).setCell ⟨g, 1, none⟩ (.int .i64 ((i : Int) + 1))) := by
  obtain ⟨x, hx, e⟩ := and255 X
  have g1 : w.grownBy ((w.setCell ⟨g, 2, none⟩ (.int .i64 Z)).drewN a) (some g) := only_drewN (only_setCell (World.grownBy.refl w _) rfl _) _
  have g2 : w.grownBy (((w.setCell ⟨g, 2, none⟩ (.int .i64 Z)).drewN a).setCell ⟨g, 1, none⟩ (.int .i64 ((i : Int) + 1))) (some g) := only_setCell g1 rfl _
  refine ⟨x, hx, by rw [e], g2, .inl ⟨by omega, Z, A, n, c, i + 1, ?_, hi, hn, ?_, by omega⟩⟩
  · show ((w.setCell ⟨g, 2, none⟩ (.int .i64 Z)).setCell ⟨g, 1, none⟩ (.int .i64 ((i : Int) + 1))).heap[g]? = _
    simp [World.setCell, Array.getElem?_modify, hb]
  · exact bytes_setCell (p := ⟨g, 1, none⟩) (bytes_drewN (bytes_setCell (p := ⟨g, 2, none⟩) hby (Nat.le_refl _) _) _) (Nat.le_refl _) _

set_option maxRecDepth 100000 in
theorem byte_x (g m : Nat) (h : Int) (w : World) (hc : CurX w g m h) :
    Calls Try.prog 147 #[.pointer (some ⟨g, 0, none⟩)] w (DrawnX (· < 256) g m h 256 w) := by
  obtain ⟨A, n, c, i, hb, hi, hn, hby, rfl⟩ := hc
  have h0 : w.cell? ⟨g, 0, none⟩ = some (.slice A n c) := cell_of_row w g 0 _ _ _ hb
  have h1 : w.cell? ⟨g, 1, none⟩ = some (.int .i64 i) := cell_of_row w g 1 _ _ _ hb
  have h2 : w.cell? ⟨g, 2, none⟩ = some (.int .i64 h) := cell_of_row w g 2 _ _ _ hb
  have hf : ∀ k, w.frozen? ⟨g, k, none⟩ = false := fun k => by simp [World.frozen?, hb]
  have hf2 := hf 2
  have hf1 := hf 1
  clear hf
  have HS := @Lib.hid _ (fun hi hlt Z hZ a b => x_skip hb hi hn hby hlt Z hZ a b)
  have HT := @Lib.hid _ (fun hi X Z a => x_take hb hi hn hby X Z a)
  clear hb
  unfold maxLen at hn
  by_cases hlt : i < n
  · obtain ⟨ad, rfl, hblk, hcell⟩ := hby (by omega)
    obtain ⟨b, hb1, hb2⟩ := hcell i hlt
    have hb3 : ∀ u : Value, (w.setCell ⟨g, 2, none⟩ u).cell? (ad.add i) = some (.int .u8 b) := fun u => by
      rw [World.cell?_setCell_other w _ _ u (fun e => by have := congrArg Addr.block e; rw [block_of_add] at this; simp at this; omega)]; exact hb2
    clear hcell hby
    go_enter Try.func147, Try.ntmps147
    go_wp2
    go_quiet (fail)
    go_wp2
    go_quiet (fail)
    go_wp2
    go_quiet (fail)
    go_wp2
    go_ret
    exact HT.out hlt _ _ _
  · go_enter Try.func147, Try.ntmps147
    go_wp2
    go_quiet (fail)
    go_wp2
    go_quiet (fail)
    go_wp2
    go_ret
    exact HS.out hi hlt (wrap64 (wrap64 (h * 6364136223846793005) + 1442695040888963407)) (stp_w h) _ _

theorem x_mod {g m : Nat} {h n : Int} {w w1 : World} (hn : 0 < n) (hn' : n ≤ 256) {x : Nat} (hx : x < 256) (hg : w.grownBy w1 (some g)) (hd : (0 < m ∧ ∃ h', CurX w1 g (m - 1) h') ∨ (m = 0 ∧ CurX w1 g 0 (stp h) ∧ (x : Int) = byX (stp h) % 256)) :
    DrawnX (fun x => (x : Int) < n) g m h n w (.returned (.int .i64 ((x : Int) % n))) w1 := by
  have h1 := Int.emod_nonneg (x : Int) (Int.ne_of_gt hn)
  have h2 := Int.emod_lt_of_pos (x : Int) hn
  refine ⟨((x : Int) % n).toNat, by omega, by rw [Int.toNat_of_nonneg h1], hg, ?_⟩
  rcases hd with hd | ⟨e1, e2, e3⟩
  · exact .inl hd
  · refine .inr ⟨e1, e2, ?_⟩
    rw [Int.toNat_of_nonneg h1]
    obtain ⟨b, hb, e⟩ := and255 (bits .xor .i64 (stp h / 8589934592) (stp h / 35184372088832))
    unfold byX at e3 ⊢
    rw [e] at e3 ⊢
    rw [show x = b by omega]
theorem below_x (g m : Nat) (h n : Int) (w : World) (hc : CurX w g m h) (hn : 0 < n) (hn' : n ≤ 256) :
    Calls Try.prog 126 #[.pointer (some ⟨g, 0, none⟩), .int .i64 n] w (DrawnX (fun x => (x : Int) < n) g m h n w) := by
  have HK := @Lib.hid _ (fun w1 x h1 h2 h3 => @x_mod g m h n w w1 hn hn' x h1 h2 h3)
  go_enter Try.func126, Try.ntmps126
  go_wp2_with fail
  refine (byte_x g m h _ hc).mono ?_
  rintro e w1 ⟨x, hx0, rfl, hg1, hd1⟩
  have hx : x < 256 := hx0
  have HD := Lib.hid hd1
  clear hx0 hd1
  go_wp2_with fail
  go_ret
  exact HK.out _ _ hx hg1 HD.out
/-- A state that gives the byte t. -/
theorem by_some : ∀ t : Fin 24, byX ((t : Nat) * 8589934592) = (t : Nat) := by decide +kernel
end Go.Proofs.Ythgnhamokikhkaa.drawX

/- Why the draw of a small maze ends: bytes that are left, passages, and the way to the next byte that is a passage. -/
namespace Go.Proofs.Ythgnhamokikhkaa.smlP
open gridP gridQ bitP mazeP mazeQ reachP reachM reachN forest lcgP drawX
set_option linter.unusedVariables false

section
variable {x y : Int}
/-- A gap closed. -/
def clr (o t : Nat) : Nat := if bt o t = 1 then o - 2 ^ t else o
theorem clr_le (o t : Nat) : clr o t ≤ o := by unfold clr; split <;> first | exact Nat.sub_le _ _ | exact Nat.le_refl _
theorem sg_clr (hk : OkZ x y) {o t : Nat} (ho : o < 2 ^ gN x y) (ht : t < gN x y) : sgZ x y o t false = (clr o t : Int) := by
  have hv := okm hk ho
  have ht2 : (t : Int) < gpsZ x y := by unfold gN at ht; omega
  unfold sgZ clr
  rw [show sgB x y o t = true from decide_eq_true ⟨hv, by omega, ht2⟩, if_pos rfl, bitZ_bt (by omega) (by omega), Int.toNat_natCast, Int.toNat_natCast]
  by_cases hb : bt o t = 1
  · rw [if_pos hb, hb, Int.natCast_sub (bt_take hb).1]
    simp
  · rw [if_neg hb, if_neg (by omega)]
    simp
theorem pc_clr {o t G : Nat} (hb : bt o t = 1) (ht : t < G) : pcN (clr o t) G + 1 = pcN o G := by
  obtain ⟨h1, h2, h3⟩ := bt_take hb
  unfold clr
  rw [if_pos hb, ← pc_add h2 ht, h3]
theorem pc_clr_le {o t G : Nat} (ht : t < G) : pcN (clr o t) G ≤ pcN o G := by
  by_cases hb : bt o t = 1
  · have := pc_clr hb ht; omega
  · unfold clr; rw [if_neg hb]; exact Nat.le_refl _
/-- The n-th byte from a state on is a passage of o. -/
def hits (G o : Nat) (h : Int) (n : Nat) : Prop := ∃ t, t < G ∧ byX (stp (itw n h)) % (G : Int) = (t : Int) ∧ bt o t = 1
noncomputable def dst (G o : Nat) (h : Int) : Nat := least (hits G o h)
theorem hits_some {G o t : Nat} (hG : G ≤ 24) (ht : t < G) (hb : bt o t = 1) (h : Int) : ∃ n, n < 18446744073709551616 ∧ hits G o h n := by
  obtain ⟨n, hn, e⟩ := comes h ((t : Int) * 8589934592) (by omega) (by omega)
  refine ⟨n, hn, t, ht, ?_, hb⟩
  have : byX ((t : Int) * 8589934592) = (t : Int) := by_some ⟨t, by omega⟩
  rw [e, this]
  exact Int.emod_eq_of_lt (by omega) (by omega)
theorem dst_lt (G o : Nat) (hG : G ≤ 24) (h : Int) : dst G o h < 18446744073709551616 := by
  by_cases hs : ∃ n, hits G o h n
  · obtain ⟨n, t, ht, -, hb⟩ := id hs
    obtain ⟨m, hm, hh⟩ := hits_some hG ht hb h
    have := (least_is hs).2 m hh
    unfold dst
    omega
  · unfold dst least
    rw [dif_neg hs]
    decide
/-- What is left of the draw. -/
noncomputable def rk (G m o : Nat) (h : Int) : Nat := m * (25 * 18446744073709551616) + pcN o G * 18446744073709551616 + dst G o h
theorem rk_take {G m o o' : Nat} {h h' : Int} (hG : G ≤ 24) (hm : 0 < m) : rk G (m - 1) o' h' < rk G m o h := by
  have h1 := dst_lt G o' hG h'
  have h2 := pcN_le o' G
  obtain ⟨k, rfl⟩ : ∃ k, m = k + 1 := ⟨m - 1, by omega⟩
  unfold rk
  rw [Nat.add_sub_cancel, Nat.add_mul k 1]
  omega
theorem rk_skip {G o t : Nat} {h : Int} (hG : G ≤ 24) (hs : ∃ t, t < G ∧ bt o t = 1) (ht : t < G) (he : (t : Int) = byX (stp h) % (G : Int)) : rk G 0 (clr o t) (stp h) < rk G 0 o h := by
  unfold rk
  by_cases hb : bt o t = 1
  · have h1 := dst_lt G (clr o t) hG (stp h)
    have h2 := pc_clr hb ht
    omega
  · have hc : clr o t = o := by unfold clr; rw [if_neg hb]
    rw [hc]
    obtain ⟨t', ht', hb'⟩ := hs
    obtain ⟨m, -, hm⟩ := hits_some hG ht' hb' h
    obtain ⟨hl, -⟩ := least_is ⟨m, hm⟩
    have : dst G o (stp h) < dst G o h := by
      unfold dst
      obtain ⟨L, hL⟩ : ∃ L, least (hits G o h) = L := ⟨_, rfl⟩
      rw [hL] at hl ⊢
      cases L with
      | zero =>
        obtain ⟨u, hu, e, hbu⟩ := hl
        have : (u : Int) = t := by rw [he, ← e]; rfl
        obtain rfl : u = t := by omega
        exact absurd hbu hb
      | succ L =>
        have hl' : hits G o (stp h) L := hl
        have := (least_is ⟨L, hl'⟩).2 L hl'
        omega
    omega
theorem pc_some {o : Nat} : ∀ {G : Nat}, 1 ≤ pcN o G → ∃ t, t < G ∧ bt o t = 1
  | 0, h => by simp [pcN] at h
  | G + 1, h => by
    by_cases hb : bt o G = 1
    · exact ⟨G, by omega, hb⟩
    · unfold pcN at h
      unfold bt at hb
      obtain ⟨t, ht, hbt⟩ := pc_some (o := o) (G := G) (by omega)
      exact ⟨t, by omega, hbt⟩
end
end Go.Proofs.Ythgnhamokikhkaa.smlP
