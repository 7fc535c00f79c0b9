/- The draws of the laws: what a drawn byte and a drawn number are, and that a draw changes the cursor alone. -/
import Derived.Test.YtomjfcmaoeoigaaDrawA
import Derived.Laws.BitsLemmas
import Derived.Laws.BitsAllLaws
namespace Go.Proofs.Ytomjfcmaoeoigaa.draw
open Go.ChangeShapes Go.WideShapes Go.ChangeAt Go.RowKit
set_option linter.unusedVariables false

theorem and255 (X : Int) : ∃ x : Nat, x < 256 ∧ bits .and .i64 X 255 = x := by
  refine ⟨(BitVec.ofInt 64 X &&& BitVec.ofInt 64 255).toNat, ?_, ?_⟩
  · rw [BitVec.toNat_and]
    have : (BitVec.ofInt 64 255).toNat = 255 := by decide
    rw [this]
    have := @Nat.and_le_right (BitVec.ofInt 64 X).toNat 255
    omega
  · have hx : (BitVec.ofInt 64 X &&& BitVec.ofInt 64 255).toNat < 256 := by
      rw [BitVec.toNat_and]
      have : (BitVec.ofInt 64 255).toNat = 255 := by decide
      rw [this]
      have := @Nat.and_le_right (BitVec.ofInt 64 X).toNat 255
      omega
    show IntKind.i64.wrap ((BitVec.ofInt 64 X &&& BitVec.ofInt 64 255).toNat : Int) = _
    rw [IntKind.wrap_i64]
    omega

/-- A draw answers a number of which P holds, and changes the cursor's block alone. -/
def Drawn (P : Nat → Prop) (g : Nat) (w : World) (e : Ending) (w' : World) : Prop := ∃ x : Nat, P x ∧ e = .returned (.int .i64 x) ∧ Cur w' g ∧ w.grownBy w' (some g)

theorem only_drewN {a w : World} {row : Option Nat} (h : a.grownBy w row) (n : Nat) : a.grownBy (w.drewN n) row := ⟨h.os, h.tape, h.output, h.size, h.block⟩
theorem only_setCell {a w : World} {g : Nat} (h : a.grownBy w (some g)) {p : Addr} (hp : p.block = g) (u : Value) : a.grownBy (w.setCell p u) (some g) :=
  ⟨h.os, h.tape, h.output, by simpa [World.setCell] using h.size, fun i hi hne => (Below.heap_setCell w p u i (by rintro rfl; exact hne (by rw [hp]))).trans (h.block i hi hne)⟩
theorem only_trans {a w w' : World} {g : Nat} (h : a.grownBy w (some g)) (k : w.grownBy w' (some g)) : a.grownBy w' (some g) :=
  ⟨k.os.trans h.os, k.tape.trans h.tape, k.output.trans h.output, Nat.le_trans h.size k.size, fun i hi hne => (k.block i (Nat.lt_of_lt_of_le hi h.size) hne).trans (h.block i hi hne)⟩

theorem bytes_drewN {w : World} {B : Nat} {A : Option Addr} {n : Nat} (h : BytesIn w B A n) (k : Nat) : BytesIn (w.drewN k) B A n := h
theorem bytes_setCell {w : World} {B : Nat} {A : Option Addr} {n : Nat} (h : BytesIn w B A n) {p : Addr} (hp : B ≤ p.block) (u : Value) : BytesIn (w.setCell p u) B A n :=
  h.keep fun q hq => World.cell?_setCell_other w p q u (fun e => by subst e; omega)

/-- The first draw's end: no byte is left. -/
theorem drawn_skip {w : World} {g : Nat} {A : Option Addr} {n c i : Nat} {h : Int} (hb : w.heap[g]? = some (.cells #[.slice A n c, .int .i64 i, .int .i64 h] 58 (0, 0)))
    (hi : i ≤ n) (hn : n ≤ maxLen) (hby : BytesIn w g A n) (X Z : Int) (a b : Nat) :
    Drawn (· < 256) g w (.returned (.int .i64 (bits .and .i64 X 255))) (((w.setCell ⟨g, 2, none⟩ (.int .i64 Z)).drewN a).drewN b) := by
  obtain ⟨x, hx, e⟩ := and255 X
  refine ⟨x, hx, by rw [e], ⟨A, n, c, i, Z, ?_, hi, hn, ?_⟩, only_drewN (only_drewN (only_setCell (World.grownBy.refl w _) rfl _) _) _⟩
  · show (w.setCell ⟨g, 2, none⟩ (.int .i64 Z)).heap[g]? = _
    simp [World.setCell, Array.getElem?_modify, hb]
  · exact bytes_setCell hby (Nat.le_refl _) _

/-- The second draw's end: a byte is taken. -/
theorem drawn_take {w : World} {g : Nat} {A : Option Addr} {n c i : Nat} {h : Int} (hb : w.heap[g]? = some (.cells #[.slice A n c, .int .i64 i, .int .i64 h] 58 (0, 0)))
    (hi : i < n) (hn : n ≤ maxLen) (hby : BytesIn w g A n) (X Z : Int) (a : Nat) :
    Drawn (· < 256) g w (.returned (.int .i64 (bits .and .i64 X 255))) (((w.setCell ⟨g, 2, none⟩ (.int .i64 Z)).drewN a).setCell ⟨g, 1, none⟩ (.int .i64 ((i : Int) + 1))) := by
  obtain ⟨x, hx, e⟩ := and255 X
  have g1 : w.grownBy ((w.setCell ⟨g, 2, none⟩ (.int .i64 Z)).drewN a) (some g) := only_drewN (only_setCell (World.grownBy.refl w _) rfl _) _
  have g2 : w.grownBy (((w.setCell ⟨g, 2, none⟩ (.int .i64 Z)).drewN a).setCell ⟨g, 1, none⟩ (.int .i64 ((i : Int) + 1))) (some g) := only_setCell g1 rfl _
  refine ⟨x, hx, by rw [e], ⟨A, n, c, i + 1, Z, ?_, hi, hn, ?_⟩, g2⟩
  · show ((w.setCell ⟨g, 2, none⟩ (.int .i64 Z)).setCell ⟨g, 1, none⟩ (.int .i64 ((i : Int) + 1))).heap[g]? = _
    simp [World.setCell, Array.getElem?_modify, hb]
  · exact bytes_setCell (p := ⟨g, 1, none⟩) (bytes_drewN (bytes_setCell (p := ⟨g, 2, none⟩) hby (Nat.le_refl _) _) _) (Nat.le_refl _) _

set_option maxRecDepth 100000 in
theorem byte_any (g : Nat) (w : World) (hc : Cur w g) :
    Calls Try.prog 42 #[.pointer (some ⟨g, 0, none⟩)] w (Drawn (· < 256) g w) := by
  obtain ⟨A, n, c, i, h, hb, hi, hn, hby⟩ := hc
  have h0 : w.cell? ⟨g, 0, none⟩ = some (.slice A n c) := cell_of_row w g 0 _ _ _ hb
  have h1 : w.cell? ⟨g, 1, none⟩ = some (.int .i64 i) := cell_of_row w g 1 _ _ _ hb
  have h2 : w.cell? ⟨g, 2, none⟩ = some (.int .i64 h) := cell_of_row w g 2 _ _ _ hb
  have hf : ∀ k, w.frozen? ⟨g, k, none⟩ = false := fun k => by simp [World.frozen?, hb]
  have hf2 := hf 2
  have hf1 := hf 1
  clear hf
  have HS := @Lib.hid _ (fun hi X Z a b => drawn_skip hb hi hn hby X Z a b)
  have HT := @Lib.hid _ (fun hi X Z a => drawn_take hb hi hn hby X Z a)
  clear hb
  unfold maxLen at hn
  by_cases hlt : i < n
  · obtain ⟨ad, rfl, hblk, hcell⟩ := hby (by omega)
    obtain ⟨b, hb1, hb2⟩ := hcell i hlt
    have hb3 : ∀ u : Value, (w.setCell ⟨g, 2, none⟩ u).cell? (ad.add i) = some (.int .u8 b) := fun u => by
      rw [World.cell?_setCell_other w _ _ u (fun e => by have := congrArg Addr.block e; rw [block_of_add] at this; simp at this; omega)]; exact hb2
    clear hcell hby
    go_enter Try.func42, Try.ntmps42
    go_wp2
    go_quiet (fail)
    go_wp2
    go_quiet (fail)
    go_wp2
    go_quiet (fail)
    go_wp2
    go_ret
    exact HT.out hlt _ _ _
  · go_enter Try.func42, Try.ntmps42
    go_wp2
    go_quiet (fail)
    go_wp2
    go_quiet (fail)
    go_wp2
    go_ret
    exact HS.out hi _ _ _ _

theorem drawn_mod {g : Nat} {w w' : World} {v n : Int} (h0 : 0 ≤ v) (hn : 0 < n) (hc : Cur w' g) (hg : w.grownBy w' (some g)) : Drawn (fun x => (x : Int) < n) g w (.returned (.int .i64 (v % n))) w' := by
  have h1 := Int.emod_nonneg v (Int.ne_of_gt hn)
  have h2 := Int.emod_lt_of_pos v hn
  exact ⟨(v % n).toNat, by omega, by rw [Int.toNat_of_nonneg h1], hc, hg⟩

theorem below_none (g : Nat) (n : Int) (w : World) (hc : Cur w g) (hn : n ≤ 0) :
    Calls Try.prog 29 #[.pointer (some ⟨g, 0, none⟩), .int .i64 n] w (Drawn (· = 0) g w) := by
  have HK : Hid (Drawn (· = 0) g w (.returned (.int .i64 0)) w) := ⟨0, rfl, rfl, hc, World.grownBy.refl w _⟩
  go_enter Try.func29, Try.ntmps29
  go_wp2_with fail
  go_ret
  exact HK.out

theorem below_any (g : Nat) (n : Int) (w : World) (hc : Cur w g) (hn : 0 < n) (hn' : n ≤ 9223372036854775807) :
    Calls Try.prog 29 #[.pointer (some ⟨g, 0, none⟩), .int .i64 n] w (Drawn (fun x => (x : Int) < n) g w) := by
  by_cases hs : n ≤ 256
  · have HK := @Lib.hid _ (fun w' v (h0 : 0 ≤ v) (h1 : Cur w' g) (h2 : w.grownBy w' (some g)) => @drawn_mod g w w' v n h0 hn h1 h2)
    go_enter Try.func29, Try.ntmps29
    go_wp2_with fail
    refine (byte_any g _ hc).mono ?_
    rintro e w1 ⟨x, hx0, rfl, hc1, hg1⟩
    have hx : x < 256 := hx0
    clear hx0
    go_wp2_with fail
    go_ret
    exact HK.out _ _ (by omega) hc1 hg1
  · have HK := @Lib.hid _ (fun w' v (h0 : 0 ≤ v) (h1 : Cur w' g) (h2 : w.grownBy w' (some g)) => @drawn_mod g w w' v n h0 hn h1 h2)
    go_enter Try.func29, Try.ntmps29
    go_wp2_with fail
    refine (byte_any g _ hc).mono ?_
    rintro e w1 ⟨x, hx0, rfl, hc1, hg1⟩
    have hx : x < 256 := hx0
    clear hx0
    go_wp2_with fail
    refine (byte_any g _ hc1).mono ?_
    rintro e w2 ⟨y, hy0, rfl, hc2, hg2⟩
    have hy : y < 256 := hy0
    clear hy0
    go_wp2_with fail
    refine (byte_any g _ hc2).mono ?_
    rintro e w3 ⟨z, hz0, rfl, hc3, hg3⟩
    have hz : z < 256 := hz0
    clear hz0
    go_wp2_with fail
    refine (byte_any g _ hc3).mono ?_
    rintro e w4 ⟨v, hv0, rfl, hc4, hg4⟩
    have hv : v < 256 := hv0
    clear hv0
    go_wp2_with fail
    go_ret
    exact HK.out _ _ (by omega) hc4 (only_trans (only_trans (only_trans hg1 hg2) hg3) hg4)
end Go.Proofs.Ytomjfcmaoeoigaa.draw
