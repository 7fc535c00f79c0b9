/- The fields of a line, as lists of bytes: plain facts. -/
import Derived.Test.YtcoikcnijaniaaaHexP
import Derived.Lib.SmallJoins
namespace Go.Proofs.Ytcoikcnijaniaaa.splP
open Go.RowKit
open hexP
set_option linter.unusedVariables false

/-- One byte more: the fields that are complete, and the one that is not. -/
def stp (p : List (List UInt8) × List UInt8) (b : UInt8) : List (List UInt8) × List UInt8 :=
  if b.toNat = 32 then (if p.2 = [] then (p.1, []) else (p.1 ++ [p.2], [])) else (p.1, p.2 ++ [b])
def scan (l : List UInt8) : List (List UInt8) × List UInt8 := l.foldl stp ([], [])
def close (p : List (List UInt8) × List UInt8) : List (List UInt8) := if p.2 = [] then p.1 else p.1 ++ [p.2]
/-- The fields of a line. -/
def split (l : List UInt8) : List (List UInt8) := close (scan l)
theorem scan_snoc (l : List UInt8) (b : UInt8) : scan (l ++ [b]) = stp (scan l) b := by simp [scan, List.foldl_append]
theorem scan_nil : scan [] = ([], []) := rfl
theorem foldl_len : ∀ (l : List UInt8) (p : List (List UInt8) × List UInt8), (l.foldl stp p).1.length + (l.foldl stp p).2.length ≤ l.length + (p.1.length + p.2.length)
  | [], p => by simp
  | b :: l, p => by
    have ih := foldl_len l (stp p b)
    have h1 : (stp p b).1.length + (stp p b).2.length ≤ 1 + (p.1.length + p.2.length) := by
      unfold stp
      by_cases hb : b.toNat = 32
      · rw [if_pos hb]
        by_cases h : p.2 = []
        · rw [if_pos h]; simp; omega
        · rw [if_neg h]
          have := List.length_pos_iff.2 h
          simp; omega
      · rw [if_neg hb]; simp; omega
    simp only [List.foldl_cons, List.length_cons]
    omega
theorem scan_len (l : List UInt8) : (scan l).1.length + (scan l).2.length ≤ l.length := by
  have := foldl_len l ([], [])
  simpa [scan] using this

/-- The cells that hold texts. -/
def scells (fs : List (List UInt8)) : List Value := fs.map fun f => .string ⟨f.toArray⟩
theorem scells_append (a b : List (List UInt8)) : scells (a ++ b) = scells a ++ scells b := by simp [scells]
theorem scells_length (a : List (List UInt8)) : (scells a).length = a.length := by simp [scells]
theorem oneCellS (l : List (List UInt8)) : ∀ u ∈ scells l, u.oneCell' = true := by
  intro u hu
  simp [scells] at hu
  obtain ⟨b, _, rfl⟩ := hu
  rfl

def okB (c : UInt8) : Prop := 32 ≤ c.toNat ∧ c.toNat ≤ 126
/-- A line that has fields. -/
def OK (s : ByteArray) : Prop := s.size ≤ 600 ∧ (∀ j (h : j < s.size), okB s[j]) ∧ (split s.data.toList).length ≤ 24

/-- What SplitFields answers: the fields of a valid line; else nothing. The slice is the call's own. -/
def SplPost (s : ByteArray) (w : World) (e : Ending) (w' : World) : Prop :=
  ∃ v fs b, e = .returned (.tuple #[v, .bool b]) ∧ ((OK s ∧ b = true ∧ fs = split s.data.toList) ∨ (¬ OK s ∧ b = false ∧ fs = [])) ∧ w'.ownsRow w.heap.size 9 1 v fs.length (scells fs) ∧ Below w.heap.size w w'
theorem spl_yes {s : ByteArray} {w w' : World} {v : Value} {n : Nat} (h : OK s) (hn : n = (split s.data.toList).length) (ho : w'.ownsRow w.heap.size 9 1 v n (scells (split s.data.toList))) (hb : Below w.heap.size w w') :
    SplPost s w (.returned (.tuple #[v, .bool true])) w' := by
  subst hn
  exact ⟨v, _, true, rfl, .inl ⟨h, rfl, rfl⟩, ho, hb⟩
theorem spl_no {s : ByteArray} {w w' : World} {v : Value} (h : ¬ OK s) (ho : w'.ownsRow w.heap.size 9 1 v 0 []) (hb : Below w.heap.size w w') :
    SplPost s w (.returned (.tuple #[v, .bool false])) w' := ⟨v, [], false, rfl, .inr ⟨h, rfl, rfl⟩, ho, hb⟩

/-- Owned rows of different element types lie in different blocks. -/
theorem own_ne {w : World} {base base' : Nat} {e e' : TypeId} {size size' n n' : Nat} {v v' : Value} {xs xs' : List Value} (h : w.ownsRow base e size v n xs) (h' : w.ownsRow base' e' size' v' n' xs') (hne : e ≠ e') :
    v.ownBlock = none ∨ v.ownBlock ≠ v'.ownBlock := by
  rcases h.2 with ⟨rfl, _⟩ | ⟨g, cap, cur, rfl, _, hg, _⟩
  · exact .inl rfl
  · refine .inr fun e1 => ?_
    rcases h'.2 with ⟨rfl, _⟩ | ⟨g', cap', cur', rfl, _, hg', _⟩
    · simp [Value.ownBlock] at e1
    · simp [Value.ownBlock] at e1
      subst e1
      rw [hg] at hg'
      injection hg' with hg'
      injection hg' with _ ht
      exact hne ht
theorem own_form {w : World} {base : Nat} {e : TypeId} {size n : Nat} {v : Value} {xs : List Value} (h : w.ownsRow base e size v n xs) : ∃ A c, v = .slice A n c := by
  rcases h.2 with ⟨rfl, rfl⟩ | ⟨g, cap, cur, rfl, _⟩
  · exact ⟨none, 0, rfl⟩
  · exact ⟨_, _, rfl⟩
end Go.Proofs.Ytcoikcnijaniaaa.splP
