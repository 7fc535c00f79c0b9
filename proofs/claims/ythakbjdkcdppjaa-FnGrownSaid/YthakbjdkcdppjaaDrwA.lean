/- The draws of the laws: what a drawn byte and a drawn number are, and that a draw changes the cursor alone. -/
import Derived.Test.YthakbjdkcdppjaaBase
import Derived.Test.YthakbjdkcdppjaaMzB
import Derived.Test.YthakbjdkcdppjaaModG
import Derived.Laws.BitsLemmas
import Derived.Laws.BitsAllLaws
import Derived.Laws.OwnMore

namespace Go.Proofs.Ythakbjdkcdppjaa.draw
open Go.ChangeShapes Go.WideShapes Go.ChangeAt Go.RowKit
set_option linter.unusedVariables false

theorem and255 (X : Int) : ∃ x : Nat, x < 256 ∧ bits .and .i64 X 255 = x := by
  refine ⟨(BitVec.ofInt 64 X &&& BitVec.ofInt 64 255).toNat, ?_, ?_⟩
  · rw [BitVec.toNat_and]
    have : (BitVec.ofInt 64 255).toNat = 255 := by decide
    rw [this]
    have := @Nat.and_le_right (BitVec.ofInt 64 X).toNat 255
    omega
  · have hx : (BitVec.ofInt 64 X &&& BitVec.ofInt 64 255).toNat < 256 := by
      rw [BitVec.toNat_and]
      have : (BitVec.ofInt 64 255).toNat = 255 := by decide
      rw [this]
      have := @Nat.and_le_right (BitVec.ofInt 64 X).toNat 255
      omega
    show IntKind.i64.wrap ((BitVec.ofInt 64 X &&& BitVec.ofInt 64 255).toNat : Int) = _
    rw [IntKind.wrap_i64]
    omega

/-- A draw answers a number of which P holds, and changes the cursor's block alone. -/
def Drawn (P : Nat → Prop) (g : Nat) (w : World) (e : Ending) (w' : World) : Prop := ∃ x : Nat, P x ∧ e = .returned (.int .i64 x) ∧ Cur w' g ∧ w.grownBy w' (some g)

theorem only_drewN {a w : World} {row : Option Nat} (h : a.grownBy w row) (n : Nat) : a.grownBy (w.drewN n) row := ⟨h.os, h.tape, h.output, h.size, h.block⟩
theorem only_setCell {a w : World} {g : Nat} (h : a.grownBy w (some g)) {p : Addr} (hp : p.block = g) (u : Value) : a.grownBy (w.setCell p u) (some g) :=
  ⟨h.os, h.tape, h.output, by simpa [World.setCell] using h.size, fun i hi hne => (Below.heap_setCell w p u i (by rintro rfl; exact hne (by rw [hp]))).trans (h.block i hi hne)⟩
theorem only_trans {a w w' : World} {g : Nat} (h : a.grownBy w (some g)) (k : w.grownBy w' (some g)) : a.grownBy w' (some g) :=
  ⟨k.os.trans h.os, k.tape.trans h.tape, k.output.trans h.output, Nat.le_trans h.size k.size, fun i hi hne => (k.block i (Nat.lt_of_lt_of_le hi h.size) hne).trans (h.block i hi hne)⟩

theorem bytes_drewN {w : World} {B : Nat} {A : Option Addr} {n : Nat} (h : BytesIn w B A n) (k : Nat) : BytesIn (w.drewN k) B A n := h
theorem bytes_setCell {w : World} {B : Nat} {A : Option Addr} {n : Nat} (h : BytesIn w B A n) {p : Addr} (hp : B ≤ p.block) (u : Value) : BytesIn (w.setCell p u) B A n :=
  h.keep fun q hq => World.cell?_setCell_other w p q u (fun e => by subst e; omega)

/-- The first draw's end: no byte is left. -/
theorem drawn_skip {w : World} {g : Nat} {A : Option Addr} {n c i : Nat} {h : Int} (hb : w.heap[g]? = some (.cells #[.slice A n c, .int .i64 i, .int .i64 h] 70 (0, 0)))
    (hi : i ≤ n) (hn : n ≤ maxLen) (hby : BytesIn w g A n) (X Z : Int) (a b : Nat) :
    Drawn (· < 256) g w (.returned (.int .i64 (bits .and .i64 X 255))) (((w.setCell ⟨g, 2, none⟩ (.int .i64 Z)).drewN a).drewN b) := by
  obtain ⟨x, hx, e⟩ := and255 X
  refine ⟨x, hx, by rw [e], ⟨A, n, c, i, Z, ?_, hi, hn, ?_⟩, only_drewN (only_drewN (only_setCell (World.grownBy.refl w _) rfl _) _) _⟩
  · show (w.setCell ⟨g, 2, none⟩ (.int .i64 Z)).heap[g]? = _
    simp [World.setCell, Array.getElem?_modify, hb]
  · exact bytes_setCell hby (Nat.le_refl _) _

/-- The second draw's end: a byte is taken. -/
theorem drawn_take {w : World} {g : Nat} {A : Option Addr} {n c i : Nat} {h : Int} (hb : w.heap[g]? = some (.cells #[.slice A n c, .int .i64 i, .int .i64 h] 70 (0, 0)))
    (hi : i < n) (hn : n ≤ maxLen) (hby : BytesIn w g A n) (X Z : Int) (a : Nat) :
    Drawn (· < 256) g w (.returned (.int .i64 (bits .and .i64 X 255))) (((w.setCell ⟨g, 2, none⟩ (.int .i64 Z)).drewN a).setCell ⟨g, 1, none⟩ (.int .i64 ((i : Int) + 1))) := by
  obtain ⟨x, hx, e⟩ := and255 X
  have g1 : w.grownBy ((w.setCell ⟨g, 2, none⟩ (.int .i64 Z)).drewN a) (some g) := only_drewN (only_setCell (World.grownBy.refl w _) rfl _) _
  have g2 : w.grownBy (((w.setCell ⟨g, 2, none⟩ (.int .i64 Z)).drewN a).setCell ⟨g, 1, none⟩ (.int .i64 ((i : Int) + 1))) (some g) := only_setCell g1 rfl _
  refine ⟨x, hx, by rw [e], ⟨A, n, c, i + 1, Z, ?_, hi, hn, ?_⟩, g2⟩
  · show ((w.setCell ⟨g, 2, none⟩ (.int .i64 Z)).setCell ⟨g, 1, none⟩ (.int .i64 ((i : Int) + 1))).heap[g]? = _
    simp [World.setCell, Array.getElem?_modify, hb]
  · exact bytes_setCell (p := ⟨g, 1, none⟩) (bytes_drewN (bytes_setCell (p := ⟨g, 2, none⟩) hby (Nat.le_refl _) _) _) (Nat.le_refl _) _

set_option maxRecDepth 100000 in
theorem byte_any (g : Nat) (w : World) (hc : Cur w g) :
    Calls Try.prog 60 #[.pointer (some ⟨g, 0, none⟩)] w (Drawn (· < 256) g w) := by
  obtain ⟨A, n, c, i, h, hb, hi, hn, hby⟩ := hc
  have h0 : w.cell? ⟨g, 0, none⟩ = some (.slice A n c) := cell_of_row w g 0 _ _ _ hb
  have h1 : w.cell? ⟨g, 1, none⟩ = some (.int .i64 i) := cell_of_row w g 1 _ _ _ hb
  have h2 : w.cell? ⟨g, 2, none⟩ = some (.int .i64 h) := cell_of_row w g 2 _ _ _ hb
  have hf : ∀ k, w.frozen? ⟨g, k, none⟩ = false := fun k => by simp [World.frozen?, hb]
  have hf2 := hf 2
  have hf1 := hf 1
  clear hf
  have HS := @Lib.hid _ (fun hi X Z a b => drawn_skip hb hi hn hby X Z a b)
  have HT := @Lib.hid _ (fun hi X Z a => drawn_take hb hi hn hby X Z a)
  clear hb
  unfold maxLen at hn
  by_cases hlt : i < n
  · obtain ⟨ad, rfl, hblk, hcell⟩ := hby (by omega)
    obtain ⟨b, hb1, hb2⟩ := hcell i hlt
    have hb3 : ∀ u : Value, (w.setCell ⟨g, 2, none⟩ u).cell? (ad.add i) = some (.int .u8 b) := fun u => by
      rw [World.cell?_setCell_other w _ _ u (fun e => by have := congrArg Addr.block e; rw [block_of_add] at this; simp at this; omega)]; exact hb2
    clear hcell hby
    go_enter Try.func60, Try.ntmps60
    go_wp2
    go_quiet (fail)
    go_wp2
    go_quiet (fail)
    go_wp2
    go_quiet (fail)
    go_wp2
    go_ret
    exact HT.out hlt _ _ _
  · go_enter Try.func60, Try.ntmps60
    go_wp2
    go_quiet (fail)
    go_wp2
    go_quiet (fail)
    go_wp2
    go_ret
    exact HS.out hi _ _ _ _

theorem drawn_mod {g : Nat} {w w' : World} {v n : Int} (h0 : 0 ≤ v) (hn : 0 < n) (hc : Cur w' g) (hg : w.grownBy w' (some g)) : Drawn (fun x => (x : Int) < n) g w (.returned (.int .i64 (v % n))) w' := by
  have h1 := Int.emod_nonneg v (Int.ne_of_gt hn)
  have h2 := Int.emod_lt_of_pos v hn
  exact ⟨(v % n).toNat, by omega, by rw [Int.toNat_of_nonneg h1], hc, hg⟩

theorem below_none (g : Nat) (n : Int) (w : World) (hc : Cur w g) (hn : n ≤ 0) :
    Calls Try.prog 44 #[.pointer (some ⟨g, 0, none⟩), .int .i64 n] w (Drawn (· = 0) g w) := by
  have HK : Hid (Drawn (· = 0) g w (.returned (.int .i64 0)) w) := ⟨0, rfl, rfl, hc, World.grownBy.refl w _⟩
  go_enter Try.func44, Try.ntmps44
  go_wp2_with fail
  go_ret
  exact HK.out

theorem below_any (g : Nat) (n : Int) (w : World) (hc : Cur w g) (hn : 0 < n) (hn' : n ≤ 9223372036854775807) :
    Calls Try.prog 44 #[.pointer (some ⟨g, 0, none⟩), .int .i64 n] w (Drawn (fun x => (x : Int) < n) g w) := by
  by_cases hs : n ≤ 256
  · have HK := @Lib.hid _ (fun w' v (h0 : 0 ≤ v) (h1 : Cur w' g) (h2 : w.grownBy w' (some g)) => @drawn_mod g w w' v n h0 hn h1 h2)
    go_enter Try.func44, Try.ntmps44
    go_wp2_with fail
    refine (byte_any g _ hc).mono ?_
    rintro e w1 ⟨x, hx0, rfl, hc1, hg1⟩
    have hx : x < 256 := hx0
    clear hx0
    go_wp2_with fail
    go_ret
    exact HK.out _ _ (by omega) hc1 hg1
  · have HK := @Lib.hid _ (fun w' v (h0 : 0 ≤ v) (h1 : Cur w' g) (h2 : w.grownBy w' (some g)) => @drawn_mod g w w' v n h0 hn h1 h2)
    go_enter Try.func44, Try.ntmps44
    go_wp2_with fail
    refine (byte_any g _ hc).mono ?_
    rintro e w1 ⟨x, hx0, rfl, hc1, hg1⟩
    have hx : x < 256 := hx0
    clear hx0
    go_wp2_with fail
    refine (byte_any g _ hc1).mono ?_
    rintro e w2 ⟨y, hy0, rfl, hc2, hg2⟩
    have hy : y < 256 := hy0
    clear hy0
    go_wp2_with fail
    refine (byte_any g _ hc2).mono ?_
    rintro e w3 ⟨z, hz0, rfl, hc3, hg3⟩
    have hz : z < 256 := hz0
    clear hz0
    go_wp2_with fail
    refine (byte_any g _ hc3).mono ?_
    rintro e w4 ⟨v, hv0, rfl, hc4, hg4⟩
    have hv : v < 256 := hv0
    clear hv0
    go_wp2_with fail
    go_ret
    exact HK.out _ _ (by omega) hc4 (only_trans (only_trans (only_trans hg1 hg2) hg3) hg4)
end Go.Proofs.Ythakbjdkcdppjaa.draw

/- The draws of the laws: a drawn grid is within the limits. -/
namespace Go.Proofs.Ythakbjdkcdppjaa.draw
open Go.ChangeShapes Go.WideShapes Go.ChangeAt Go.RowKit
set_option linter.unusedVariables false

/-- A draw answers a number of which P holds. -/
def DrawnZ (P : Int → Prop) (g : Nat) (w : World) (e : Ending) (w' : World) : Prop := ∃ z : Int, P z ∧ e = .returned (.int .i64 z) ∧ Cur w' g ∧ w.grownBy w' (some g)
theorem drawnZ_mk {P : Int → Prop} {g : Nat} {w w' : World} {z : Int} (hz : P z) (hc : Cur w' g) (hg : w.grownBy w' (some g)) : DrawnZ P g w (.returned (.int .i64 z)) w' := ⟨z, hz, rfl, hc, hg⟩

theorem pickInt_all (P : Int → Prop) (g s n : Nat) (zs : List Int) (w : World) (hc : Cur w g) (hn : 0 < n) (hn' : n ≤ 65536) (hs : s ≠ g) (hlt : s < w.heap.size) (hz : ∀ k, k < n → w.cell? ⟨s, k, none⟩ = some (.int .i64 (zs.getD k 0))) (hP : ∀ k, k < n → P (zs.getD k 0)) :
    Calls Try.prog 43 #[.pointer (some ⟨g, 0, none⟩), .slice (some ⟨s, 0, none⟩) n n] w (DrawnZ P g w) := by
  have HK := @Lib.hid _ (fun w' x (hx : x < n) (h1 : Cur w' g) (h2 : w.grownBy w' (some g)) => @drawnZ_mk P g w w' _ (hP x hx) h1 h2)
  have HZ := Lib.hid hz
  clear hz hP
  go_enter Try.func43, Try.ntmps43
  go_wp2_with fail
  refine (below_any g _ _ hc (by omega) (by omega)).mono ?_
  rintro e w1 ⟨x, hx, rfl, hc1, hg1⟩
  have hx' : x < n := by omega
  clear hx
  have hcell : w1.cell? ⟨s, x, none⟩ = some (.int .i64 (zs.getD x 0)) := hg1.cell (HZ.out x hx') (by simp; omega)
  go_wp2_with fail
  go_ret
  exact HK.out _ x hx' hc1 hg1

theorem Cur.alloc1 {w : World} {g : Nat} (h : Cur w g) (o : Obj) : Cur (w.alloc o) g := h.kept ((Below.refl w.heap.size w).alloc (Nat.le_refl _) o) h.lt

/-- The two numbers of a drawn grid. -/
theorem five_cells (w : World) (B : Nat) (hB : w.heap.size = B) (T : TypeId) (k : Nat) (hk : k < 5) : (w.alloc (.cells #[.int .i64 1, .int .i64 2, .int .i64 3, .int .i64 3, .int .i64 4] T)).cell? ⟨B, k, none⟩ = some (.int .i64 (([1, 2, 3, 3, 4] : List Int).getD k 0)) := by
  subst hB
  rw [World.cell?_alloc_new]
  match k, hk with
  | 0, _ => rfl
  | 1, _ => rfl
  | 2, _ => rfl
  | 3, _ => rfl
  | 4, _ => rfl
theorem five_in (k : Nat) (hk : k < 5) : 1 ≤ ([1, 2, 3, 3, 4] : List Int).getD k 0 ∧ ([1, 2, 3, 3, 4] : List Int).getD k 0 ≤ 4 := by
  match k, hk with
  | 0, _ => decide
  | 1, _ => decide
  | 2, _ => decide
  | 3, _ => decide
  | 4, _ => decide

/-- A draw answers a grid within the limits. -/
def DrawnG (g : Nat) (w : World) (e : Ending) (w' : World) : Prop := ∃ x y : Int, (1 ≤ x ∧ x ≤ 4 ∧ 1 ≤ y ∧ y ≤ 4) ∧ e = .returned (.agg #[.int .i64 x, .int .i64 y]) ∧ Cur w' g ∧ w.grownBy w' (some g)
theorem drawnG_mk {g : Nat} {w w' : World} {x y : Int} (hx : 1 ≤ x ∧ x ≤ 4) (hy : 1 ≤ y ∧ y ≤ 4) (hc : Cur w' g) (hg : w.grownBy w' (some g)) : DrawnG g w (.returned (.agg #[.int .i64 x, .int .i64 y])) w' :=
  ⟨x, y, ⟨hx.1, hx.2, hy.1, hy.2⟩, rfl, hc, hg⟩

theorem only_alloc1 {a w : World} {row : Option Nat} (h : a.grownBy w row) (o : Obj) : a.grownBy (w.alloc o) row :=
  ⟨h.os, h.tape, h.output, Nat.le_trans h.size (by simp), fun i hi hne => (Below.heap_alloc w o i (Nat.lt_of_lt_of_le hi h.size)).trans (h.block i hi hne)⟩
theorem only_trans1 {a w w' : World} {g : Nat} (h : a.grownBy w (some g)) (k : w.grownBy w' (some g)) : a.grownBy w' (some g) := only_trans h k
theorem grown_block {w w' : World} {g r : Nat} {o : Obj} (hg : w.grownBy w' (some g)) (h : w.heap[r]? = some o) (hne : r ≠ g) : w'.heap[r]? = some o := by
  have hr : r < w.heap.size := by
    rcases Nat.lt_or_ge r w.heap.size with hlt | hge
    · exact hlt
    · rw [Array.getElem?_eq_none hge] at h; cases h
  exact (hg.block r hr (by simpa using hne)).trans h

theorem grown_set {a w : World} {row : Option Nat} (h : a.grownBy w row) {p : Addr} (hp : a.heap.size ≤ p.block) (u : Value) : a.grownBy (w.setCell p u) row :=
  ⟨h.os, h.tape, h.output, by simpa [World.setCell] using h.size, fun i hi hne => (Below.heap_setCell w p u i (by omega)).trans (h.block i hi hne)⟩
theorem block_lt {w : World} {r : Nat} {o : Obj} (h : w.heap[r]? = some o) : r < w.heap.size := by
  rcases Nat.lt_or_ge r w.heap.size with hlt | hge
  · exact hlt
  · rw [Array.getElem?_eq_none hge] at h; cases h

set_option maxHeartbeats 1000000 in
theorem grid_any (g : Nat) (w : World) (hc : Cur w g) :
    Calls Try.prog 21 #[.pointer (some ⟨g, 0, none⟩)] w (DrawnG g w) := by
  have HK := @Lib.hid _ (fun w' x y a b h1 h2 => @drawnG_mk g w w' x y a b h1 h2)
  have hlt := hc.lt
  go_enter Try.func21, Try.ntmps21
  go_wp2_with fail
  refine (pickInt_all (fun z => 1 ≤ z ∧ z ≤ 4) g (w.heap.size + 1) 5 [1, 2, 3, 3, 4] _ ((hc.alloc1 _).alloc1 _) (by omega) (by omega) (by omega) (by simp) ?_ five_in).mono ?_
  · exact fun k hk => five_cells _ _ (by simp) _ k hk
  rintro e w1 ⟨x, hx0, rfl, hc1, hg1⟩
  have hx := Lib.hid hx0
  clear hx0
  have hr1 : w1.heap[w.heap.size]? = some (.cells #[.int .i64 0, .int .i64 0] 25 (0, 0)) := grown_block hg1 ((Below.heap_alloc (w.alloc _) _ _ (by simp)).trans (heap_alloc_new w _)) (by omega)
  have HR1 := Lib.hid hr1
  have HG1 := Lib.hid (only_trans (only_alloc1 (only_alloc1 (World.grownBy.refl w (some g)) _) _) hg1)
  have hz1 := HG1.out.size
  clear hr1 hg1
  go_wp2_with fail
  refine (pickInt_all (fun z => 1 ≤ z ∧ z ≤ 4) g w1.heap.size 5 [1, 2, 3, 3, 4] _ (hc1.alloc1 _) (by omega) (by omega) (by have := hc1.lt; omega) (by simp) ?_ five_in).mono ?_
  · exact fun k hk => five_cells _ _ rfl _ k hk
  rintro e w2 ⟨y, hy0, rfl, hc2, hg2⟩
  have hy := Lib.hid hy0
  clear hy0
  have hr2 : w2.heap[w.heap.size]? = some (.cells #[.int .i64 0, .int .i64 0] 25 (0, 0)) := grown_block hg2 ((Below.heap_alloc w1 _ _ (block_lt HR1.out)).trans HR1.out) (by omega)
  have HG2 := Lib.hid (only_trans (only_alloc1 HG1.out _) hg2)
  have c0 : w2.cell? ⟨w.heap.size, 0, none⟩ = some (.int .i64 0) := cell_of_row w2 _ 0 _ _ _ hr2
  have c1 : w2.cell? ⟨w.heap.size, 1, none⟩ = some (.int .i64 0) := cell_of_row w2 _ 1 _ _ _ hr2
  have f0 : w2.frozen? ⟨w.heap.size, 0, none⟩ = false := by simp [World.frozen?, hr2]
  have f1 : w2.frozen? ⟨w.heap.size, 1, none⟩ = false := by simp [World.frozen?, hr2]
  clear hr2 hg2
  go_wp2_with fail
  refine bodyPost_ret (v := .agg #[.int .i64 x, .int .i64 y]) (by simp [results, Try.results21, go_sem, c0, c1]) rfl (HK.out _ _ _ hx.out hy.out ?_ ?_)
  · exact hc2.kept (((Below.refl w.heap.size _).setCell (p := ⟨w.heap.size, 0, none⟩) (Nat.le_refl _) _).setCell (p := ⟨w.heap.size, 1, none⟩) (Nat.le_refl _) _) hlt
  · exact grown_set (grown_set HG2.out (p := ⟨w.heap.size, 0, none⟩) (Nat.le_refl _) _) (p := ⟨w.heap.size, 1, none⟩) (Nat.le_refl _) _

/-- A draw of a grid from a code. -/
def GridDrawn (w : World) (e : Ending) (w' : World) : Prop := ∃ x y : Int, (1 ≤ x ∧ x ≤ 4 ∧ 1 ≤ y ∧ y ≤ 4) ∧ e = .returned (.agg #[.int .i64 x, .int .i64 y]) ∧ Below w.heap.size w w'
theorem gridDrawn_mk {w w' : World} {x y : Int} (h : 1 ≤ x ∧ x ≤ 4 ∧ 1 ≤ y ∧ y ≤ 4) (hb : Below w.heap.size w w') : GridDrawn w (.returned (.agg #[.int .i64 x, .int .i64 y])) w' := ⟨x, y, h, rfl, hb⟩

end Go.Proofs.Ythakbjdkcdppjaa.draw

/- The draws of mazes: small parts: a drawn truth value, common divisors. -/
namespace Go.Proofs.Ythakbjdkcdppjaa.draw
open Go.ChangeShapes Go.WideShapes Go.ChangeAt Go.RowKit
set_option linter.unusedVariables false

/-- A draw answers a truth value. -/
def DrawnB (g : Nat) (w : World) (e : Ending) (w' : World) : Prop := ∃ t : Bool, e = .returned (.bool t) ∧ Cur w' g ∧ w.grownBy w' (some g)
theorem drawnB_mk {g : Nat} {w w' : World} {t : Bool} (hc : Cur w' g) (hg : w.grownBy w' (some g)) : DrawnB g w (.returned (.bool t)) w' := ⟨t, rfl, hc, hg⟩
theorem once_any (g : Nat) (n : Int) (w : World) (hc : Cur w g) (hn : 0 < n) (hn' : n ≤ 9223372036854775807) :
    Calls Try.prog 45 #[.pointer (some ⟨g, 0, none⟩), .int .i64 n] w (DrawnB g w) := by
  have HK := @Lib.hid _ (fun w' t h1 h2 => @drawnB_mk g w w' t h1 h2)
  go_enter Try.func45, Try.ntmps45
  go_wp2_with fail
  refine (below_any g _ _ hc hn hn').mono ?_
  rintro e w1 ⟨x, hx, rfl, hc1, hg1⟩
  go_wp2_with fail
  go_ret
  exact HK.out _ _ hc1 hg1

/-- Whether two numbers have a common divisor greater than 1. -/
def cmB (a b : Nat) : Bool := decide (1 < Nat.gcd a b)
/-- What l03Common leaves. -/
def CmPost (a b : Nat) (w : World) (e : Ending) (w' : World) : Prop := e = .returned (.bool (cmB a b)) ∧ ∃ d, w' = w.drewN d
/-- At the head of a round. -/
def CmRel (a b : Nat) (w : World) (u0 u1 : Value) (wr : World) : Prop := ∃ a' b' d : Nat, u0 = .int .i64 a' ∧ u1 = .int .i64 b' ∧ Nat.gcd a' b' = Nat.gcd a b ∧ a' ≤ 1000 ∧ b' ≤ 1000 ∧ wr = w.drewN d
theorem cm_step {a b a' b' d : Nat} {w : World} (h : Nat.gcd a' b' = Nat.gcd a b) (hb : 0 < b') (h1 : b' ≤ 1000) (k : Nat) : CmRel a b w (.int .i64 (b' : Int)) (.int .i64 ((a' : Int) % (b' : Int))) ((w.drewN d).drewN k) := by
  have hm : a' % b' < b' := Nat.mod_lt _ hb
  refine ⟨b', a' % b', d + k, rfl, by rw [show ((a' % b' : Nat) : Int) = (a' : Int) % (b' : Int) from by simp], ?_, h1, by omega, ?_⟩
  · rw [← h, Nat.gcd_comm a' b', Nat.gcd_rec b' a', Nat.gcd_comm]
  · simp [World.drewN, Nat.add_comm, Nat.add_left_comm]
theorem cm_end {a b a' d : Nat} {w : World} (h : Nat.gcd a' 0 = Nat.gcd a b) : CmPost a b w (.returned (.bool (decide ((1 : Int) < (a' : Int))))) (w.drewN d) := by
  refine ⟨?_, d, rfl⟩
  rw [Nat.gcd_zero_right] at h
  unfold cmB
  rw [← h, show decide ((1 : Int) < (a' : Int)) = decide (1 < a') from decide_eq_decide.2 (by omega)]

end Go.Proofs.Ythakbjdkcdppjaa.draw

/- The draw of a tree of passages: what stands at each of its steps. -/
namespace Go.Proofs.Ythakbjdkcdppjaa.mazeE
open Go.ChangeShapes Go.WideShapes Go.ChangeAt Go.RowKit
open draw gridP gridC bitP mazeP mazeC mazeM intsP
set_option linter.unusedVariables false

/-- A draw answers a maze of a grid. -/
def DrawnM (x y : Int) (g : Nat) (w : World) (e : Ending) (w' : World) : Prop := ∃ z : Int, (0 ≤ z ∧ z ≤ topZ x y) ∧ e = .returned (.agg #[.int .i64 x, .int .i64 y, .int .i64 z]) ∧ Cur w' g ∧ w.grownBy w' (some g)
theorem drawnM_mk {x y z : Int} {g : Nat} {w w' : World} (hz : 0 ≤ z ∧ z ≤ topZ x y) (hc : Cur w' g) (hg : w.grownBy w' (some g)) : DrawnM x y g w (.returned (.agg #[.int .i64 x, .int .i64 y, .int .i64 z])) w' := ⟨z, hz, rfl, hc, hg⟩

theorem ends_in {x y t : Int} (h1 : 1 ≤ x) (h2 : x ≤ 4) (h3 : 1 ≤ y) (h4 : y ≤ 4) (t0 : 0 ≤ t) (t1 : t < gpsZ x y) : (0 ≤ eaZ x y t ∧ eaZ x y t < x * y) ∧ 0 ≤ ebZ x y t ∧ ebZ x y t < x * y := by
  unfold gpsZ at t1
  have ha : eaZ x y t = if t < (x - 1) * y then t + t / (x - 1) else t - (x - 1) * y := by unfold eaZ; rw [if_pos ⟨h1, h2, h3, h4⟩, if_pos ⟨t0, t1⟩]
  have hb : ebZ x y t = if t < (x - 1) * y then t + t / (x - 1) + 1 else t - (x - 1) * y + x := by unfold ebZ; rw [if_pos ⟨h1, h2, h3, h4⟩, if_pos ⟨t0, t1⟩]
  rw [ha, hb]
  clear ha hb
  by_cases hs : t < (x - 1) * y
  · rw [if_pos hs, if_pos hs]
    obtain rfl | rfl | rfl | rfl : x = 1 ∨ x = 2 ∨ x = 3 ∨ x = 4 := by omega
    all_goals
      obtain rfl | rfl | rfl | rfl : y = 1 ∨ y = 2 ∨ y = 3 ∨ y = 4 := by omega
      all_goals omega
  · rw [if_neg hs, if_neg hs]
    obtain rfl | rfl | rfl | rfl : x = 1 ∨ x = 2 ∨ x = 3 ∨ x = 4 := by omega
    all_goals
      obtain rfl | rfl | rfl | rfl : y = 1 ∨ y = 2 ∨ y = 3 ∨ y = 4 := by omega
      all_goals omega

/-- What stands at a step: the cursor; the grid; the maze that is answered; the maze that grows; the cells' parts. -/
def TS (w : World) (g : Nat) (v : Value) (n : Nat) (x y : Int) (X : World) : Prop :=
  Cur X g ∧ w.grownBy X (some g) ∧ (Box w.heap.size x y X ∧ Row3 (w.heap.size + 1) 0 0 0 X ∧ (∃ z, (0 ≤ z ∧ z ≤ topZ x y) ∧ Row3 (w.heap.size + 2) x y z X) ∧ ∃ l : List Int, X.ownsRow (w.heap.size + 3) 3 1 v n (icells l))

theorem grown_below {w X X' : World} {row : Option Nat} (h : w.grownBy X row) (hb : Below X.heap.size X X') : w.grownBy X' row :=
  ⟨hb.os.trans h.os, hb.tape.trans h.tape, hb.output.trans h.output, Nat.le_trans h.size hb.size, fun i hi hne => (hb.block i (Nat.lt_of_lt_of_le hi h.size)).trans (h.block i hi hne)⟩
theorem TS.below {w X X' : World} {g n : Nat} {v : Value} {x y : Int} (h : TS w g v n x y X) (hb : Below X.heap.size X X') : TS w g v n x y X' := by
  obtain ⟨hc, hg, hx, hr, ⟨z, hz, hm⟩, l, hl⟩ := h
  exact ⟨hc.kept hb hc.lt, grown_below hg hb, hx.call hb, hr.call hb, ⟨z, hz, hm.call hb⟩, l, own_call hl hb⟩
theorem row3_grown {b g : Nat} {x y z : Int} {X X' : World} (h : Row3 b x y z X) (hg : X.grownBy X' (some g)) (hne : b ≠ g) : Row3 b x y z X' := by
  obtain ⟨T, h⟩ := h
  exact ⟨T, grown_block hg h hne⟩
theorem box_grown {b g : Nat} {x y : Int} {X X' : World} (h : Box b x y X) (hg : X.grownBy X' (some g)) (hne : b ≠ g) : Box b x y X' := by
  obtain ⟨⟨c0, c1⟩, hl⟩ := h
  have hr : some b ≠ some g := fun e => hne (Option.some.inj e)
  exact ⟨⟨hg.cell c0 hr, hg.cell c1 hr⟩, Nat.lt_of_lt_of_le hl hg.size⟩
theorem TS.draw {w X X' : World} {g n : Nat} {v : Value} {x y : Int} (h : TS w g v n x y X) (hlt : g < w.heap.size) (hc' : Cur X' g) (hg' : X.grownBy X' (some g)) : TS w g v n x y X' := by
  obtain ⟨hc, hg, hx, hr, ⟨z, hz, hm⟩, l, hl⟩ := h
  refine ⟨hc', only_trans hg hg', box_grown hx hg' (by omega), row3_grown hr hg' (by omega), ⟨z, hz, row3_grown hm hg' (by omega)⟩, l, hl.kept hg' ?_⟩
  rcases hl.2 with ⟨rfl, _⟩ | ⟨q, cap, cur, rfl, hq, _⟩
  · exact .inl rfl
  · exact .inr fun e => by simp [Value.ownBlock] at e; omega
theorem TS.drewN {w X : World} {g n : Nat} {v : Value} {x y : Int} (h : TS w g v n x y X) (k : Nat) : TS w g v n x y (X.drewN k) := h.below ⟨rfl, rfl, rfl, Nat.le_refl _, fun _ _ => rfl⟩

theorem box_set {b : Nat} {x y : Int} {X : World} (h : Box b x y X) {p : Addr} (hne : p.block ≠ b) (u : Value) : Box b x y (X.setCell p u) := by
  obtain ⟨⟨c0, c1⟩, hl⟩ := h
  have n : ∀ k, p ≠ (⟨b, k, none⟩ : Addr) := fun k e => hne (by rw [e])
  exact ⟨⟨(World.cell?_setCell_other _ _ _ _ (n 0)).trans c0, (World.cell?_setCell_other _ _ _ _ (n 1)).trans c1⟩, by simpa [World.setCell] using hl⟩
theorem row3_set {b : Nat} {x y z : Int} {X : World} (h : Row3 b x y z X) {p : Addr} (hne : p.block ≠ b) (u : Value) : Row3 b x y z (X.setCell p u) := by
  obtain ⟨T, h⟩ := h
  exact ⟨T, (Below.heap_setCell X p u b (fun e => hne e.symm)).trans h⟩
theorem row3_put {b : Nat} {x y z z' : Int} {X : World} (h : Row3 b x y z X) : Row3 b x y z' (X.setCell ⟨b, 2, none⟩ (.int .i64 z')) := by
  obtain ⟨T, h⟩ := h
  exact ⟨T, by simp [World.setCell, Array.getElem?_modify, h]⟩
theorem grown_put {w X : World} {g : Nat} (h : w.grownBy X (some g)) {p : Addr} (hp : w.heap.size ≤ p.block) (u : Value) : w.grownBy (X.setCell p u) (some g) := grown_set h hp u
theorem cur_set {X : World} {g : Nat} (h : Cur X g) {p : Addr} (hp : g < p.block) (u : Value) : Cur (X.setCell p u) g :=
  h.kept (B := p.block) ((Below.refl p.block X).setCell (Nat.le_refl _) u) hp
theorem own_set {X : World} {base n : Nat} {v : Value} {xs : List Value} (h : X.ownsRow base 3 1 v n xs) {p : Addr} (hp : p.block < base) (u : Value) : (X.setCell p u).ownsRow base 3 1 v n xs :=
  ownsRow_setCell_below h hp u
/-- The growing maze gets another number. -/
theorem TS.open {w X : World} {g n : Nat} {v : Value} {x y : Int} (h : TS w g v n x y X) (hlt : g < w.heap.size) {z' : Int} (hz : 0 ≤ z' ∧ z' ≤ topZ x y) : TS w g v n x y (X.setCell ⟨w.heap.size + 2, 2, none⟩ (.int .i64 z')) := by
  obtain ⟨hc, hg, hx, hr, ⟨z, _, hm⟩, l, hl⟩ := h
  exact ⟨cur_set hc (by simp; omega) _, grown_put hg (by simp) _, box_set hx (by simp) _, row3_set hr (by simp) _, ⟨z', hz, row3_put hm⟩, l, own_set hl (by simp) _⟩
/-- A cell gets another part. -/
theorem TS.part {w X : World} {g n q c j : Nat} {x y : Int} (h : TS w g (.slice (some ⟨q, 0, none⟩) n c) n x y X) (hlt : g < w.heap.size) (hq : w.heap.size + 3 ≤ q) (hj : j < n) (u : Int) : TS w g (.slice (some ⟨q, 0, none⟩) n c) n x y (X.setCell ⟨q, j, none⟩ (.int .i64 u)) := by
  obtain ⟨hc, hg, hx, hr, ⟨z, hz, hm⟩, l, hl⟩ := h
  refine ⟨cur_set hc (by simp; omega) _, grown_put hg (by simp; omega) _, box_set hx (by simp; omega) _, row3_set hr (by simp; omega) _, ⟨z, hz, row3_set hm (by simp; omega) _⟩, l.set j u, ?_⟩
  have h1 := (hl.stored j (.int .i64 u)).1
  have e : (icells l).set j (.int .i64 u) = icells (l.set j u) := by simp [icells, List.map_set]
  rwa [e] at h1
/-- A cell's part can be read and written. -/
theorem TS.cell {w X : World} {g n q c : Nat} {x y : Int} (h : TS w g (.slice (some ⟨q, 0, none⟩) n c) n x y X) (j : Nat) (hj : j < n) : (∃ u : Int, X.cell? ⟨q, j, none⟩ = some (.int .i64 u)) ∧ X.frozen? ⟨q, j, none⟩ = false := by
  obtain ⟨_, _, _, _, _, l, hl⟩ := h
  have hlen : l.length = n := by have := hl.1; rw [icells_length] at this; omega
  exact ⟨⟨l[j]'(by omega), (hl.cellAt j (by omega)).trans (icells_at l j (by omega))⟩, hl.frozenAt j⟩
theorem TS.parts {w X : World} {g n : Nat} {v : Value} {x y : Int} (h : TS w g v n x y X) :
    (X.cell? ⟨w.heap.size, 0, none⟩ = some (.int .i64 x) ∧ X.cell? ⟨w.heap.size, 1, none⟩ = some (.int .i64 y)) ∧
    ((X.cell? ⟨w.heap.size + 1, 0, none⟩ = some (.int .i64 0) ∧ X.cell? ⟨w.heap.size + 1, 1, none⟩ = some (.int .i64 0) ∧ X.cell? ⟨w.heap.size + 1, 2, none⟩ = some (.int .i64 0)) ∧ X.frozen? ⟨w.heap.size + 1, 0, none⟩ = false ∧ X.frozen? ⟨w.heap.size + 1, 1, none⟩ = false ∧ X.frozen? ⟨w.heap.size + 1, 2, none⟩ = false) ∧
    ∃ z, (0 ≤ z ∧ z ≤ topZ x y) ∧ (X.cell? ⟨w.heap.size + 2, 0, none⟩ = some (.int .i64 x) ∧ X.cell? ⟨w.heap.size + 2, 1, none⟩ = some (.int .i64 y) ∧ X.cell? ⟨w.heap.size + 2, 2, none⟩ = some (.int .i64 z)) ∧ X.frozen? ⟨w.heap.size + 2, 0, none⟩ = false ∧ X.frozen? ⟨w.heap.size + 2, 1, none⟩ = false ∧ X.frozen? ⟨w.heap.size + 2, 2, none⟩ = false := by
  obtain ⟨_, _, hx, hr, ⟨z, hz, hm⟩, _⟩ := h
  exact ⟨hx.1, row3_cells hr, z, hz, row3_cells hm⟩
theorem TS.cur {w X : World} {g n : Nat} {v : Value} {x y : Int} (h : TS w g v n x y X) : Cur X g := h.1
/-- At the start. -/
theorem ts_start {w : World} {g : Nat} {x y : Int} (hc : Cur w g) (h0 : 0 ≤ topZ x y) (T T' T'' : TypeId) :
    TS w g (.slice none 0 0) 0 x y (((w.alloc (.cells #[.int .i64 x, .int .i64 y] T)).alloc (.cells #[.int .i64 0, .int .i64 0, .int .i64 0] T')).alloc (.cells #[.int .i64 x, .int .i64 y, .int .i64 0] T'')) := by
  refine ⟨((hc.alloc1 _).alloc1 _).alloc1 _, only_alloc1 (only_alloc1 (only_alloc1 (World.grownBy.refl w _) _) _) _, ?_, ?_, ⟨0, ⟨Int.le_refl _, h0⟩, ?_⟩, [], World.ownsRow_nil _ _ _ _⟩
  · exact ((box_new x y w T).call (below_box _ _)).call (below_box _ _)
  · have := Row3.call (row3_new 0 0 0 (w.alloc (.cells #[.int .i64 x, .int .i64 y] T)) T') (below_box _ (.cells #[.int .i64 x, .int .i64 y, .int .i64 0] T''))
    simpa using this
  · have := row3_new x y 0 ((w.alloc (.cells #[.int .i64 x, .int .i64 y] T)).alloc (.cells #[.int .i64 0, .int .i64 0, .int .i64 0] T')) T''
    simpa using this
theorem made_ints (n : Nat) : (madeCells (Value.int .i64 0).cells n).toList = icells (List.replicate n 0) := by
  unfold madeCells icells
  apply List.ext_getElem?
  intro i
  simp only [Array.toList_map, Array.toList_range, List.getElem?_map, Value.cells]
  by_cases hi : i < n
  · simp [hi, Nat.mod_one]
  · simp [hi]
/-- The cells' parts are made. -/
theorem TS.make {w X : World} {g n : Nat} {x y : Int} (h : TS w g (.slice none 0 0) 0 x y X) (hm : n ≤ maxLen) (hs : w.heap.size + 3 ≤ X.heap.size) : TS w g (.slice (some ⟨X.heap.size, 0, none⟩) n n) n x y (X.alloc (.cells (madeCells (Value.int .i64 0).cells n) 3)) := by
  obtain ⟨hc, hg, hx, hr, ⟨z, hz, hm'⟩, _⟩ := h
  refine ⟨hc.alloc1 _, only_alloc1 hg _, hx.call (below_box _ _), hr.call (below_box _ _), ⟨z, hz, hm'.call (below_box _ _)⟩, List.replicate n 0, ?_⟩
  have := World.ownsRow_lit (base := w.heap.size + 3) (e := 3) (size := 1) X (madeCells (Value.int .i64 0).cells n) n hs hm (by rw [size_madeCells]; omega)
  rwa [made_ints] at this
/-- An own slice lies behind all that was there. -/
theorem TS.size {w X : World} {g n : Nat} {v : Value} {x y : Int} (h : TS w g v n x y X) : w.heap.size + 3 ≤ X.heap.size := by
  obtain ⟨_, _, _, _, ⟨z, _, hm⟩, _⟩ := h
  have := row3_lt hm
  omega
/-- The end: what is answered is read out of its block. -/
theorem TS.done {w X : World} {g n : Nat} {v : Value} {x y : Int} (h : TS w g v n x y X) (hlt : g < w.heap.size) (u0 u1 u2 : Value) : Cur (((X.setCell ⟨w.heap.size + 1, 0, none⟩ u0).setCell ⟨w.heap.size + 1, 1, none⟩ u1).setCell ⟨w.heap.size + 1, 2, none⟩ u2) g ∧ w.grownBy (((X.setCell ⟨w.heap.size + 1, 0, none⟩ u0).setCell ⟨w.heap.size + 1, 1, none⟩ u1).setCell ⟨w.heap.size + 1, 2, none⟩ u2) (some g) :=
  ⟨cur_set (cur_set (cur_set h.1 (by simp; omega) _) (by simp; omega) _) (by simp; omega) _, grown_put (grown_put (grown_put h.2.1 (by simp) _) (by simp) _) (by simp) _⟩
end Go.Proofs.Ythakbjdkcdppjaa.mazeE

/- The draw of a tree of passages answers a valid maze of the grid, and changes the cursor alone. -/
namespace Go.Proofs.Ythakbjdkcdppjaa.mazeE
open Go.ChangeShapes Go.WideShapes Go.ChangeAt Go.RowKit
open draw gridP gridC gridE bitP mazeP mazeC mazeM mazeR intsP
set_option linter.unusedVariables false

theorem common_last (n : Nat) : cmB (n + 1) n = false := by
  have h : Nat.gcd (n + 1) n = 1 := by simp
  unfold cmB
  rw [h]
  rfl
/-- One gap more is open: still a maze of the grid. -/
theorem or_top {z t G T : Int} (hT : T = 2 ^ G.toNat - 1) (h0 : 0 ≤ z) (h1 : z ≤ T) (t0 : 0 ≤ t) (t1 : t < G) (hG : G ≤ 24) : 0 ≤ bits .or .i64 z (wrap64 (2 ^ t.toNat)) ∧ bits .or .i64 z (wrap64 (2 ^ t.toNat)) ≤ T := by
  have hb := pow_bd t (by omega)
  have hg := pow_bd G hG
  subst hT
  rw [IntWalk.wrap64_in _ (by omega), or_is h0 (by omega) t0 (by omega)]
  have hp := (put_bd h0 t0 t1 hG h1).2
  split
  · exact ⟨h0, h1⟩
  · rename_i hne
    exact ⟨by omega, hp hne⟩

/-- What is answered, out of the growing maze. -/
theorem tree_end {w X Y : World} {g n : Nat} {v : Value} {x y z : Int} (h : TS w g v n x y X) (hlt : g < w.heap.size) (hz : 0 ≤ z ∧ z ≤ topZ x y)
    (hY : Y = ((X.setCell ⟨w.heap.size + 1, 0, none⟩ (.int .i64 x)).setCell ⟨w.heap.size + 1, 1, none⟩ (.int .i64 y)).setCell ⟨w.heap.size + 1, 2, none⟩ (.int .i64 z)) :
    DrawnM x y g w (.returned (.agg #[.int .i64 x, .int .i64 y, .int .i64 z])) Y := by
  subst hY
  obtain ⟨a, b⟩ := h.done hlt (.int .i64 x) (.int .i64 y) (.int .i64 z)
  exact drawnM_mk hz a b

end Go.Proofs.Ythakbjdkcdppjaa.mazeE

/- The draw of a maze: it is valid, and the draw changes the cursor alone. -/
namespace Go.Proofs.Ythakbjdkcdppjaa.mazeE
open Go.ChangeShapes Go.WideShapes Go.ChangeAt Go.RowKit
open draw gridP gridC gridE bitP mazeP mazeC mazeM mazeR intsP
set_option linter.unusedVariables false

/-- A draw answers a valid maze. -/
def DrawnMz (g : Nat) (w : World) (e : Ending) (w' : World) : Prop := ∃ x y z : Int, OkM x y z ∧ e = .returned (.agg #[.int .i64 x, .int .i64 y, .int .i64 z]) ∧ Cur w' g ∧ w.grownBy w' (some g)

/-- What stands at a step: the cursor, the answer's block, the grid's, the maze's. -/
def MS (w : World) (g b1 b2 : Nat) (x y : Int) (X : World) : Prop :=
  Cur X g ∧ w.grownBy X (some g) ∧ (Row3 w.heap.size 0 0 0 X ∧ Box b1 x y X ∧ ∃ z, (0 ≤ z ∧ z ≤ topZ x y) ∧ Row3 b2 x y z X)
theorem MS.below {w X X' : World} {g b1 b2 : Nat} {x y : Int} (h : MS w g b1 b2 x y X) (hb : Below X.heap.size X X') : MS w g b1 b2 x y X' := by
  obtain ⟨hc, hg, hr, hx, z, hz, hm⟩ := h
  exact ⟨hc.kept hb hc.lt, grown_below hg hb, hr.call hb, hx.call hb, z, hz, hm.call hb⟩
theorem MS.draw {w X X' : World} {g b1 b2 : Nat} {x y : Int} (h : MS w g b1 b2 x y X) (hlt : g < w.heap.size) (h1 : w.heap.size < b1) (h2 : w.heap.size < b2) (hc' : Cur X' g) (hg' : X.grownBy X' (some g)) : MS w g b1 b2 x y X' := by
  obtain ⟨hc, hg, hr, hx, z, hz, hm⟩ := h
  exact ⟨hc', only_trans hg hg', row3_grown hr hg' (by omega), box_grown hx hg' (by omega), z, hz, row3_grown hm hg' (by omega)⟩
theorem MS.dr {w X : World} {g b1 b2 : Nat} {x y : Int} (h : MS w g b1 b2 x y X) : MS w g b1 b2 x y X.drew := h.below ⟨rfl, rfl, rfl, Nat.le_refl _, fun _ _ => rfl⟩
theorem MS.open {w X : World} {g b1 b2 : Nat} {x y : Int} (h : MS w g b1 b2 x y X) (hlt : g < w.heap.size) (h1 : b1 < b2) (h2 : w.heap.size < b2) {z' : Int} (hz : 0 ≤ z' ∧ z' ≤ topZ x y) : MS w g b1 b2 x y (X.setCell ⟨b2, 2, none⟩ (.int .i64 z')) := by
  obtain ⟨hc, hg, hr, hx, z, _, hm⟩ := h
  exact ⟨cur_set hc (by simp; omega) _, grown_put hg (by simp; omega) _, row3_set hr (by simp; omega) _, box_set hx (by simp; omega) _, z', hz, row3_put hm⟩
theorem MS.parts {w X : World} {g b1 b2 : Nat} {x y : Int} (h : MS w g b1 b2 x y X) :
    (X.cell? ⟨b1, 0, none⟩ = some (.int .i64 x) ∧ X.cell? ⟨b1, 1, none⟩ = some (.int .i64 y)) ∧
    (X.cell? ⟨w.heap.size, 0, none⟩ = some (.int .i64 0) ∧ X.cell? ⟨w.heap.size, 1, none⟩ = some (.int .i64 0) ∧ X.cell? ⟨w.heap.size, 2, none⟩ = some (.int .i64 0)) ∧ (X.frozen? ⟨w.heap.size, 0, none⟩ = false ∧ X.frozen? ⟨w.heap.size, 1, none⟩ = false ∧ X.frozen? ⟨w.heap.size, 2, none⟩ = false) ∧
    ∃ z, (0 ≤ z ∧ z ≤ topZ x y) ∧ (X.cell? ⟨b2, 0, none⟩ = some (.int .i64 x) ∧ X.cell? ⟨b2, 1, none⟩ = some (.int .i64 y) ∧ X.cell? ⟨b2, 2, none⟩ = some (.int .i64 z)) ∧ X.frozen? ⟨b2, 0, none⟩ = false ∧ X.frozen? ⟨b2, 1, none⟩ = false ∧ X.frozen? ⟨b2, 2, none⟩ = false := by
  obtain ⟨_, _, hr, hx, z, hz, hm⟩ := h
  exact ⟨hx.1, (row3_cells hr).1, (row3_cells hr).2, z, hz, row3_cells hm⟩
theorem MS.done {w X Y : World} {g b1 b2 : Nat} {x y z : Int} (h : MS w g b1 b2 x y X) (hlt : g < w.heap.size) (hv : 1 ≤ x ∧ x ≤ 4 ∧ 1 ≤ y ∧ y ≤ 4) (hz : 0 ≤ z ∧ z ≤ topZ x y)
    (hY : Y = ((X.setCell ⟨w.heap.size, 0, none⟩ (.int .i64 x)).setCell ⟨w.heap.size, 1, none⟩ (.int .i64 y)).setCell ⟨w.heap.size, 2, none⟩ (.int .i64 z)) :
    DrawnMz g w (.returned (.agg #[.int .i64 x, .int .i64 y, .int .i64 z])) Y := by
  subst hY
  exact ⟨x, y, z, ⟨hv, hz⟩, rfl, cur_set (cur_set (cur_set h.1 hlt _) hlt _) hlt _, grown_put (grown_put (grown_put h.2.1 (Nat.le_refl _) _) (Nat.le_refl _) _) (Nat.le_refl _) _⟩
theorem xor_top {z G T : Int} (t : Nat) (hT : T = 2 ^ G.toNat - 1) (h0 : 0 ≤ z) (h1 : z ≤ T) (t1 : (t : Int) < G) (hG : G ≤ 24) : 0 ≤ bits .xor .i64 z (wrap64 (2 ^ t)) ∧ bits .xor .i64 z (wrap64 (2 ^ t)) ≤ T := by
  have hb := pow_bd t (by omega)
  have hg := pow_bd G hG
  have hp := put_bd h0 (Int.natCast_nonneg t) t1 hG (hT ▸ h1)
  have e := xor_is (o := z) (g := t) h0 (by omega) (by omega) (by omega)
  rw [Int.toNat_natCast] at hb hp e
  rw [IntWalk.wrap64_in _ (by omega), e]
  subst hT
  split
  · rename_i he
    exact ⟨hp.1 he, by omega⟩
  · rename_i hne
    exact ⟨by omega, hp.2 hne⟩
theorem zero_cells {w w' : World} {g : Nat} {T : TypeId} (hg : (w.alloc (.cells #[.int .i64 0, .int .i64 0, .int .i64 0] T)).grownBy w' (some g)) (hlt : g < w.heap.size) : Row3 w.heap.size 0 0 0 w' := row3_grown (row3_new 0 0 0 w T) hg (by omega)

/-- A draw of a maze from a code. -/
def MazeDrawn (w : World) (e : Ending) (w' : World) : Prop := ∃ x y z : Int, OkM x y z ∧ e = .returned (.agg #[.int .i64 x, .int .i64 y, .int .i64 z]) ∧ Below w.heap.size w w'
theorem mazeDrawn_mk {w X Y : World} {x y z : Int} (h : OkM x y z) (hb : Below w.heap.size w X) (hY : Y = ((X.setCell ⟨w.heap.size, 0, none⟩ (.int .i64 x)).setCell ⟨w.heap.size, 1, none⟩ (.int .i64 y)).setCell ⟨w.heap.size, 2, none⟩ (.int .i64 z)) : MazeDrawn w (.returned (.agg #[.int .i64 x, .int .i64 y, .int .i64 z])) Y := by
  subst hY
  exact ⟨x, y, z, h, rfl, ((hb.setCell (Nat.le_refl _) _).setCell (Nat.le_refl _) _).setCell (Nat.le_refl _) _⟩

end Go.Proofs.Ythakbjdkcdppjaa.mazeE
