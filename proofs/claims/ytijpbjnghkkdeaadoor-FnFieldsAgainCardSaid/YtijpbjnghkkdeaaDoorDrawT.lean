/- The draws of the laws: a drawn text, and a text of one byte over and over. -/
import Derived.Test.YtijpbjnghkkdeaaDoorDrawC
import Derived.Test.YtijpbjnghkkdeaaDoorHexP
import Derived.Laws.MakeOwn
import Derived.OwnWalk
namespace Go.Proofs.YtijpbjnghkkdeaaDoor.draw
open Go.ChangeShapes Go.WideShapes Go.ChangeAt Go.RowKit
open hexP
set_option linter.unusedVariables false

theorem info_u8 : (Tryd.prog.info? 5).map (fun i => (i.zero, i.size, i.bytes)) = some (some (.int .u8 0), 1, 1) := by kernel_rfl

theorem only_allocR {a w : World} {row : Option Nat} (h : a.grownBy w row) (o : Obj) : a.grownBy (w.alloc o) row :=
  ⟨h.os, h.tape, h.output, Nat.le_trans h.size (by simp), fun i hi hne => (Below.heap_alloc w o i (Nat.lt_of_lt_of_le hi h.size)).trans (h.block i hi hne)⟩
theorem only_own {a w w' : World} {row r : Option Nat} (h : a.grownBy w row) (k : w.grownBy w' r) (hr : ∀ b, r = some b → a.heap.size ≤ b) : a.grownBy w' row :=
  ⟨k.os.trans h.os, k.tape.trans h.tape, k.output.trans h.output, Nat.le_trans h.size k.size, fun i hi hne => (k.block i (Nat.lt_of_lt_of_le hi h.size) (fun e => by have := hr i e.symm; omega)).trans (h.block i hi hne)⟩
theorem Cur.grown {w w' : World} {g : Nat} {r : Option Nat} (h : Cur w g) (k : w.grownBy w' r) (hr : ∀ b, r = some b → g < b) : Cur w' g := by
  have hlt := h.lt
  obtain ⟨A, n, c, i, hh, h1, h2, h3, h4⟩ := h
  refine ⟨A, n, c, i, hh, (k.block g hlt (fun e => by have := hr g e.symm; omega)).trans h1, h2, h3, h4.keep fun p hp => ?_⟩
  exact World.cell?_of_block (k.block p.block (by omega) (fun e => by have := hr _ e.symm; omega))
theorem Cur.allocR {w : World} {g : Nat} (h : Cur w g) (o : Obj) : Cur (w.alloc o) g := h.kept ((Below.refl w.heap.size w).alloc (Nat.le_refl _) o) h.lt

/-- A draw answers a text of n bytes. -/
def DrawnS (g n : Nat) (w : World) (e : Ending) (w' : World) : Prop := ∃ s : ByteArray, s.size = n ∧ e = .returned (.string s) ∧ Cur w' g ∧ w.grownBy w' (some g)
theorem drawnS_mk {g n : Nat} {w w' : World} {l : List UInt8} (hl : l.length = n) (hc : Cur w' g) (hg : w.grownBy w' (some g)) : DrawnS g n w (.returned (.string ⟨l.toArray⟩)) w' := ⟨_, by simp [ByteArray.size, hl], rfl, hc, hg⟩

/-- At the head of a round of l01Text. -/
def TextRel (g n : Nat) (w : World) (u5 u6 : Value) (wr : World) : Prop :=
  ∃ (k : Nat) (l : List UInt8), k ≤ n ∧ u6 = .int .i64 k ∧ l.length = k ∧ wr.ownsRow w.heap.size 5 1 u5 k (bcells l) ∧ Cur wr g ∧ w.grownBy wr (some g)

theorem u8_cell (x : Nat) (hx : x < 256) : #[Value.int .u8 (x : Int)].toList = bcells [UInt8.ofNat x] := by
  have e : (UInt8.ofNat x).toNat = x := by rw [UInt8.toNat_ofNat']; omega
  show [Value.int .u8 (x : Int)] = [Value.int .u8 ((UInt8.ofNat x).toNat : Int)]
  rw [e]

theorem text_step {g n k gg cap : Nat} {w wr w1 w2 : World} {l : List UInt8} {v : Value} {o : Obj} {b : UInt8} (hg : g < w.heap.size) (hlt : k < n) (hl : l.length = k) (hown : wr.ownsRow w.heap.size 5 1 v k (bcells l)) (hgr : w.grownBy wr (some g))
    (hc1 : Cur w1 g) (hg1 : wr.grownBy w1 (some g))
    (hown2 : w2.ownsRow w.heap.size 5 1 (.slice (some ⟨gg, 0, none⟩) (k + 1) cap) (k + 1) (bcells l ++ bcells [b])) (hg2 : (w1.alloc o).grownBy w2 v.ownBlock) :
    TextRel g n w (.slice (some ⟨gg, 0, none⟩) (k + 1) cap) (.int .i64 ((k : Int) + 1)) w2 := by
  have hv : ∀ j, v.ownBlock = some j → w.heap.size ≤ j := fun j hj => (hown.lt j hj).1
  refine ⟨k + 1, l ++ [b], hlt, by go_num, by simp [hl], ?_, ?_, ?_⟩
  · rw [bcells_append]; exact hown2
  · exact (hc1.allocR o).grown hg2 (fun j hj => by have := hv j hj; omega)
  · exact only_own (only_allocR (only_trans hgr hg1) o) hg2 hv

set_option maxRecDepth 100000 in
theorem text_any (g : Nat) (m : Int) (n : Nat) (w : World) (hm : m = (n : Int)) (hc : Cur w g) (hn : n ≤ 5000) :
    Calls Tryd.prog 25 #[.pointer (some ⟨g, 0, none⟩), .int .i64 m] w (DrawnS g n w) := by
  subst hm
  obtain ⟨i0, hi0, hz0, hz1, hz2⟩ := info_parts info_u8
  have hg := hc.lt
  have HO := Lib.hid (show (w.alloc (.cells #[] 5)).ownsRow w.heap.size 5 1 (.slice (some ⟨w.heap.size, 0, none⟩) 0 0) 0 [] from World.ownsRow_made w #[] 0 (Nat.le_refl _) (Nat.zero_le _) (by simp))
  have HC := Lib.hid (hc.allocR (.cells #[] 5))
  have HG := Lib.hid (only_allocR (World.grownBy.refl w (some g)) (.cells #[] 5))
  clear hc
  go_enter Tryd.func25, Tryd.ntmps25
  go_wp2_with fail
  go_loopw [5, 6] (fun u5 u6 wr => TextRel g n w u5 u6 wr) (fun _ u6 _ => n - (intOf u6).toNat)
  case atStart => exact ⟨0, [], Nat.zero_le _, rfl, rfl, HO.out, HC.out, HG.out⟩
  case round =>
    obtain ⟨k, l, hk, rfl, hl, hown, hcr, hgr⟩ := hrel
    have HL := Lib.hid hl
    clear HO HC HG hl
    by_cases hlt : k < n
    · go_wp2_with fail
      refine (byte_any g _ hcr).mono ?_
      rintro e w1 ⟨x, hx0, rfl, hc1, hg1⟩
      have hx : x < 256 := hx0
      have hown' : w1.ownsRow w.heap.size 5 1 _ k (bcells l) := hown.kept hg1 (by
        cases hv : Value.ownBlock _ with
        | none => exact .inl rfl
        | some j => exact .inr (fun e => by have := (hown.lt j hv).1; injection e with e; omega))
      have hsz : w.heap.size ≤ w1.heap.size := Nat.le_trans hgr.size hg1.size
      clear hx0
      go_wp2_with (at_builtin; refine wpList_append_lies _ rfl (.tmp 15) (.tmp 19) 22 rfl w.heap.size 5 i0 _ 1 1 Tryd.underlying22 hi0 hz0 hz1 hz2 rfl (by omega) _ k _ rfl (hown'.alloc _) ⟨w1.heap.size, 0, none⟩ 1 1 (bcells [UInt8.ofNat x]) rfl rfl (news_eq (u8_cell x hx) (heap_alloc_new w1 _)) (oneCell _) (by omega) (by unfold maxLen; omega) (by omega) (by simp; omega) (w1.heap.size + 1) (by simp) ?_; intro gg cap w2 hown2 hgrow hat hlt2; clear hat hlt2)
      go_roundw
      case rel => exact text_step hg hlt HL.out hown hgr hc1 hg1 hown2 hgrow
      case measure => simp [intOf]; omega
    · obtain rfl : k = n := by omega
      have HD := Lib.hid (drawnS_mk HL.out hcr hgr)
      have hcv := run_convert_own (P := Tryd.prog) wr 22 9 5 Tryd.underlying22 Tryd.underlying5 Tryd.underlying9 _ hown
      clear hown
      go_wp2
      go_ret
      exact HD.out

/-- The cells of a new row of n bytes. -/
def zeroRow (n : Nat) : Array Value := madeCells (Value.cells (.int .u8 0)) n
theorem zeroRow_eq (n : Nat) : zeroRow n = (bcells (List.replicate n 0)).toArray := by
  apply Array.ext'
  simp [zeroRow, madeCells, bcells, Value.cells]
  apply List.ext_getElem?
  intro i
  by_cases h : i < n
  · simp [h, Nat.mod_one]
  · simp [h]

/-- A text of n bytes; what was there is as it was. -/
def LongS (n : Nat) (w : World) (e : Ending) (w' : World) : Prop := ∃ s : ByteArray, s.size = n ∧ e = .returned (.string s) ∧ Below w.heap.size w w'
theorem longS_mk {n : Nat} {w w' : World} {l : List UInt8} (hl : l.length = n) (hb : Below w.heap.size w w') : LongS n w (.returned (.string ⟨l.toArray⟩)) w' := ⟨_, by simp [ByteArray.size, hl], rfl, hb⟩

/-- At the head of a round of l01Long. -/
def LongRel (n : Nat) (w : World) (u6 : Value) (wr : World) : Prop :=
  ∃ (k : Nat) (l : List UInt8), k ≤ n ∧ u6 = .int .i64 k ∧ l.length = n ∧ wr.heap[w.heap.size]? = some (.cells (bcells l).toArray 5 (0, 0)) ∧ Below w.heap.size w wr

theorem long_step {n k : Nat} {w wr : World} {l : List UInt8} {c : UInt8} (hlt : k < n) (hl : l.length = n) (hh : wr.heap[w.heap.size]? = some (.cells (bcells l).toArray 5 (0, 0))) (hb : Below w.heap.size w wr) :
    LongRel n w (.int .i64 ((k : Int) + 1)) (wr.setCell ⟨w.heap.size, k, none⟩ (.int .u8 (c.toNat : Int))) := by
  refine ⟨k + 1, l.set k c, hlt, by go_num, by simp [hl], ?_, hb.setCell (Nat.le_refl _) _⟩
  have e : (bcells (l.set k c)).toArray = (bcells l).toArray.setIfInBounds k (.int .u8 (c.toNat : Int)) := by
    simp [bcells, List.map_set]
  rw [e]
  simp only [World.setCell, Array.getElem?_modify, if_true, hh, Option.map_some]
  rfl

set_option maxRecDepth 100000 in
theorem long_any (m : Int) (n : Nat) (z : Int) (c : UInt8) (w : World) (hm : m = (n : Int)) (hz : z = (c.toNat : Int)) (hn : n ≤ 1048576) :
    Calls Tryd.prog 23 #[.int .i64 m, .int .u8 z] w (LongS n w) := by
  subst hm
  subst hz
  obtain ⟨i0, hi0, hz0, hz1, hz2⟩ := info_parts info_u8
  have hmk : (Instr.makeSlice 22 (.int .i64 (n : Int)) (.int .i64 (n : Int))).run Tryd.prog w = .ok (.slice (some ⟨w.heap.size, 0, none⟩) n n) (w.alloc (.cells (zeroRow n) 5)) := by
    have := run_make (P := Tryd.prog) w 22 5 i0 _ Tryd.underlying22 hi0 hz0 .i64 .i64 n n (by omega) (Int.le_refl _) (by rw [hz2]; omega) (by omega)
    rw [this, hz1]
    simp [zeroRow]
  have HZ := Lib.hid (show (w.alloc (.cells (zeroRow n) 5)).heap[w.heap.size]? = some (.cells (bcells (List.replicate n 0)).toArray 5 (0, 0)) by rw [← zeroRow_eq]; exact heap_alloc_new w _)
  have HB := Lib.hid (show Below w.heap.size w (w.alloc (.cells (zeroRow n) 5)) from (Below.refl _ _).alloc (Nat.le_refl _) _)
  go_enter Tryd.func23, Tryd.ntmps23
  go_wp2_with fail
  clear hmk
  go_loopw [6] (fun u6 wr => LongRel n w u6 wr) (fun u6 _ => n - (intOf u6).toNat)
  case atStart => exact ⟨0, _, Nat.zero_le _, rfl, List.length_replicate .., HZ.out, HB.out⟩
  case round =>
    obtain ⟨k, l, hk, rfl, hl, hh, hb⟩ := hrel
    have HL := Lib.hid hl
    have HH := Lib.hid hh
    clear HZ HB hl
    by_cases hlt : k < n
    · have hcell : wr.cell? ⟨w.heap.size, k, none⟩ = some (.int .u8 (((l[k]?).getD 0).toNat : Int)) := by
        have h2 : k < l.length := by rw [HL.out]; exact hlt
        rw [cell_of_row wr w.heap.size k _ _ _ hh]
        simp [bcells, List.getElem?_eq_getElem h2]
      have hfz : wr.frozen? ⟨w.heap.size, k, none⟩ = false := by simp [World.frozen?, hh]
      clear hh
      go_wp2_with fail
      go_roundw
      case rel => exact long_step hlt HL.out HH.out hb
      case measure => simp [intOf]; omega
    · have HD := Lib.hid (longS_mk HL.out hb)
      have hcv := run_convert_bytes_back (P := Tryd.prog) wr 22 9 5 ⟨w.heap.size, 0, none⟩ n l Tryd.underlying22 Tryd.underlying5 Tryd.underlying9 fun j hj => by
        have e : (⟨w.heap.size, 0, none⟩ : Addr).add j = ⟨w.heap.size, j, none⟩ := by unfold Addr.add; split <;> simp_all
        rw [e, cell_of_row wr w.heap.size j _ _ _ HH.out]
        simp [bcells, List.getElem?_eq_getElem hj]
      rw [HL.out] at hcv
      clear hh
      go_wp2
      go_ret
      exact HD.out
end Go.Proofs.YtijpbjnghkkdeaaDoor.draw
