/- Hexadecimal text read back, as lists of bytes: plain facts. -/
import Derived.Test.YtijpbjnghkkdeaaDoorHexP
import Derived.Lib.Bytealg
import Derived.Laws.Entries
import Derived.IntWalk
namespace Go.Proofs.YtijpbjnghkkdeaaDoor.decP
open Go.RowKit
open hexP
set_option linter.unusedVariables false

/-- The value of a digit, or -1. -/
def val (c : UInt8) : Int := if 48 ≤ c.toNat ∧ c.toNat ≤ 57 then (c.toNat : Int) - 48 else if 97 ≤ c.toNat ∧ c.toNat ≤ 102 then (c.toNat : Int) - 87 else -1
theorem val_lt (c : UInt8) : val c < 16 := by unfold val; (repeat' split) <;> omega
theorem val_ge (c : UInt8) : -1 ≤ val c := by unfold val; (repeat' split) <;> omega

theorem index_all : ∀ n : Fin 256, Lib.indexByte [48, 49, 50, 51, 52, 53, 54, 55, 56, 57, 97, 98, 99, 100, 101, 102] (UInt8.ofNat n.val) = val (UInt8.ofNat n.val) := by decide +kernel
theorem index_val (c : UInt8) : Lib.indexByte [48, 49, 50, 51, 52, 53, 54, 55, 56, 57, 97, 98, 99, 100, 101, 102] c = val c := by
  have h := index_all ⟨c.toNat, c.toNat_lt⟩
  simpa using h

/-- The byte of two digits. -/
def byteAt (a b : UInt8) : UInt8 := UInt8.ofNat (16 * (val a).toNat + (val b).toNat)
/-- The first k bytes that the digits l say. -/
def decI (l : List UInt8) (k : Nat) : List UInt8 := (List.range k).map fun j => byteAt (l.getD (2 * j) 0) (l.getD (2 * j + 1) 0)
theorem decI_zero (l : List UInt8) : decI l 0 = [] := rfl
theorem decI_succ (l : List UInt8) (k : Nat) : decI l (k + 1) = decI l k ++ [byteAt (l.getD (2 * k) 0) (l.getD (2 * k + 1) 0)] := by simp [decI, List.range_succ]
theorem decI_length (l : List UInt8) (k : Nat) : (decI l k).length = k := by simp [decI]

/-- Both digits at an even place are digits. -/
def good (s : ByteArray) (i : Nat) : Prop := 0 ≤ val (s.data.toList.getD i 0) ∧ 0 ≤ val (s.data.toList.getD (i + 1) 0)
def AllGood (s : ByteArray) : Prop := ∀ i, i % 2 = 0 → i + 1 < s.size → good s i
theorem at_getD (s : ByteArray) (i : Nat) (h : i < s.size) : s.data.toList.getD i 0 = s[i] := by
  have h' : i < s.data.toList.length := by simpa using h
  rw [List.getD_eq_getElem?_getD, List.getElem?_eq_getElem h']
  rfl

theorem shl_or (x y : Nat) (hx : x < 16) (hy : y < 16) : bits .or .i64 ((x : Int) * 16) (y : Int) = ((16 * x + y : Nat) : Int) := by
  have e0 : (x : Int) * 16 = ((x * 16 : Nat) : Int) := by omega
  have e1 : (BitVec.ofInt 64 ((x * 16 : Nat) : Int)).toNat = x * 16 := by rw [BitVec.ofInt_natCast, BitVec.toNat_ofNat]; exact Nat.mod_eq_of_lt (by omega)
  have e2 : (BitVec.ofInt 64 (y : Int)).toNat = y := by rw [BitVec.ofInt_natCast, BitVec.toNat_ofNat]; exact Nat.mod_eq_of_lt (by omega)
  have e3 : x * 16 ||| y = x * 16 + y := by
    have := Nat.two_pow_add_eq_or_of_lt (i := 4) (b := y) (by omega) x
    have e : 2 ^ 4 * x = x * 16 := by omega
    rw [e] at this
    exact this.symm
  rw [e0]
  show IntKind.i64.wrap ((BitVec.ofInt 64 ((x * 16 : Nat) : Int) ||| BitVec.ofInt 64 (y : Int)).toNat : Int) = _
  rw [BitVec.toNat_or, e1, e2, e3, IntKind.wrap_i64]
  omega
theorem u8_of (n : Nat) (h : n < 256) : IntKind.u8.wrap (n : Int) = ((UInt8.ofNat n).toNat : Int) := by
  rw [UInt8.toNat_ofNat']
  have : IntKind.u8.wrap (n : Int) = (n : Int) := IntWalk.u8_in _ (by omega)
  rw [this]; omega

theorem or_cell (x y : Nat) (hx : x < 16) (hy : y < 16) {b : UInt8} (hb : b = UInt8.ofNat (16 * x + y)) : #[Value.int .u8 (bits .or .i64 ((x : Int) * 16) (y : Int) % 256)].toList = bcells [b] := by
  rw [shl_or x y hx hy, hb]
  have : ((16 * x + y : Nat) : Int) % 256 = ((UInt8.ofNat (16 * x + y)).toNat : Int) := by rw [UInt8.toNat_ofNat']; omega
  rw [this]; rfl

theorem sum_cell (x y : Nat) (hx : x < 16) (hy : y < 16) {b : UInt8} (hb : b = UInt8.ofNat (16 * x + y)) : #[Value.int .u8 (16 * (x : Int) + (y : Int))].toList = bcells [b] := by
  rw [hb]
  have : 16 * (x : Int) + (y : Int) = ((UInt8.ofNat (16 * x + y)).toNat : Int) := by rw [UInt8.toNat_ofNat']; omega
  rw [this]; rfl

/-- What DecodeHex answers: the bytes, if all digits are digits; else nothing. -/
def DecPost (s : ByteArray) (w : World) (e : Ending) (w' : World) : Prop :=
  ((AllGood s ∧ e = .returned (.tuple #[.string ⟨(decI s.data.toList (s.size / 2)).toArray⟩, .bool true])) ∨ (¬ AllGood s ∧ e = .returned (.tuple #[.string ⟨#[]⟩, .bool false]))) ∧ Below w.heap.size w w'
theorem dec_bad {s : ByteArray} {w w' : World} {i : Nat} (hi : i % 2 = 0) (hlt : i + 1 < s.size) (hg : ¬ good s i) (hb : Below w.heap.size w w') : DecPost s w (.returned (.tuple #[.string ⟨#[]⟩, .bool false])) w' :=
  ⟨.inr ⟨fun h => hg (h i hi hlt), rfl⟩, hb⟩
theorem dec_good {s : ByteArray} {w w' : World} (h : AllGood s) (hb : Below w.heap.size w w') : DecPost s w (.returned (.tuple #[.string ⟨(decI s.data.toList (s.size / 2)).toArray⟩, .bool true])) w' :=
  ⟨.inl ⟨h, rfl⟩, hb⟩
/-- At the head of a round: i digits, an even number, are read. -/
def DecRel (w : World) (s : ByteArray) (u4 u5 : Value) (wr : World) : Prop :=
  ∃ i k : Nat, i = 2 * k ∧ i ≤ s.size ∧ u5 = .int .i64 i ∧ (∀ j, j < i → j % 2 = 0 → good s j) ∧ wr.ownsRow w.heap.size 5 1 u4 k (bcells (decI s.data.toList k)) ∧ Below w.heap.size w wr
theorem dec_step {w wr w1 : World} {s : ByteArray} {i k gg cap : Nat} {v : Value} {o : Obj} (hk : i = 2 * k) (hlt : i + 1 < s.size) (hg : good s i) (hall : ∀ j, j < i → j % 2 = 0 → good s j) (hb : Below w.heap.size w wr)
    (hown : wr.ownsRow w.heap.size 5 1 v k (bcells (decI s.data.toList k)))
    (hown1 : w1.ownsRow w.heap.size 5 1 (.slice (some ⟨gg, 0, none⟩) (k + 1) cap) (k + 1) (bcells (decI s.data.toList k) ++ bcells [byteAt (s.data.toList.getD i 0) (s.data.toList.getD (i + 1) 0)])) (hgr : (wr.alloc o).grownBy w1 v.ownBlock) :
    DecRel w s (.slice (some ⟨gg, 0, none⟩) (k + 1) cap) (.int .i64 ((i : Int) + 2)) w1 := by
  refine ⟨i + 2, k + 1, by omega, by omega, by rw [show ((i + 2 : Nat) : Int) = (i : Int) + 2 from by omega], fun j hj hj2 => ?_, ?_, ?_⟩
  · rcases Nat.lt_or_ge j i with h | h
    · exact hall j h hj2
    · have : j = i := by omega
      subst this; exact hg
  · rw [decI_succ, bcells_append, ← hk]
    exact hown1
  · exact (hb.alloc hb.size o).grown hgr (by have := hb.size; simp; omega) (fun b hk => (hown.lt b hk).1)
end Go.Proofs.YtijpbjnghkkdeaaDoor.decP
