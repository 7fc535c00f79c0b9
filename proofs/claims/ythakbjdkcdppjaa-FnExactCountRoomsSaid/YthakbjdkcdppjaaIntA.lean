/- A slice of integers that comes in as an argument, and the laws' own copy of it. -/
import Derived.Test.YthakbjdkcdppjaaBase
import Derived.Test.YthakbjdkcdppjaaMzB
namespace Go.Proofs.Ythakbjdkcdppjaa.intA
open Go.ChangeShapes Go.WideShapes Go.ChangeAt Go.RowKit
open draw lawKit gridC intsP reachD
set_option linter.unusedVariables false

/-- The slice at A lies below block B and holds the integers l. -/
def IntsIn (w : World) (B : Nat) (A : Option Addr) (l : List Int) : Prop :=
  l ≠ [] → ∃ ad, A = some ad ∧ ad.block < B ∧ ∀ j u, l[j]? = some u → w.cell? (ad.add j) = some (.int .i64 u)
theorem IntsIn.keep {w w' : World} {B : Nat} {A : Option Addr} {l : List Int} (h : IntsIn w B A l) (hk : ∀ p : Addr, p.block < B → w'.cell? p = w.cell? p) : IntsIn w' B A l := by
  intro hn
  obtain ⟨ad, e, hb, hc⟩ := h hn
  exact ⟨ad, e, hb, fun j u hj => (hk _ (by rw [block_of_add]; exact hb)).trans (hc j u hj)⟩
theorem IntsIn.more {w : World} {B B' : Nat} {A : Option Addr} {l : List Int} (h : IntsIn w B A l) (hB : B ≤ B') : IntsIn w B' A l := by
  intro hn
  obtain ⟨ad, e, hb, hc⟩ := h hn
  exact ⟨ad, e, by omega, hc⟩
theorem IntsIn.below {w w' : World} {B : Nat} {A : Option Addr} {l : List Int} (h : IntsIn w B A l) (hb : Below B w w') : IntsIn w' B A l := h.keep fun p hp => hb.cell hp
/-- What is owned can be read so. -/
theorem ints_own {w : World} {base n c : Nat} {A : Option Addr} {l : List Int} (h : w.ownsRow base 3 1 (.slice A n c) n (icells l)) : IntsIn w w.heap.size A l ∧ n = l.length := by
  have hn : n = l.length := by have := h.1; rw [icells_length] at this; omega
  refine ⟨fun hne => ?_, hn⟩
  have hpos : 0 < n := by
    rcases Nat.eq_zero_or_pos n with e | e
    · subst hn; cases l with
      | nil => exact absurd rfl hne
      | cons a b => simp at e
    · exact e
  obtain ⟨g, cg, hge, hg, hgs⟩ := own_some h hpos
  cases hge
  refine ⟨⟨g, 0, none⟩, rfl, hgs, fun j u hj => ?_⟩
  have hjl : j < l.length := (List.getElem?_eq_some_iff.1 hj).1
  have := h.cellAt j (by omega)
  rw [icells_at l j hjl] at this
  rw [List.getElem?_eq_getElem hjl] at hj
  rw [Option.some.inj hj] at this
  rcases Nat.eq_zero_or_pos j with rfl | hj0
  · simpa [Addr.add] using this
  · simpa [Addr.add, Nat.ne_of_gt hj0] using this
theorem ints_cell {w : World} {B : Nat} {A : Option Addr} {l : List Int} (h : IntsIn w B A l) {j : Nat} {u : Int} (hj : l[j]? = some u) : ∃ ad, A = some ad ∧ ad.block < B ∧ w.cell? (ad.add j) = some (.int .i64 u) := by
  obtain ⟨ad, e, hb, hc⟩ := h (fun e => by rw [e] at hj; cases hj)
  exact ⟨ad, e, hb, hc j u hj⟩

section
variable {H : Type} {enc : TypeId × Value → H} {P : Program}
/-- Integers that come in. -/
theorem open_intS {t e : TypeId} (ht : P.underlying t = some (.slice e)) (he : P.underlying e = some (.int .i64)) (hc : P.cellsOf e = 1) {W : World} {base : Nat} {v : Value} {d : DataW H} {ps : List MemPlace}
    (hval : Value.okWide P W .any base t v) (h : DataW.Trod enc P W 0 (fun _ => true) true t v d ps) (hlt : ∀ x ∈ ps, x.block < W.heap.size) :
    ∃ A c l, v = .slice A l.length c ∧ l.length ≤ maxLen ∧ IntsIn W W.heap.size A l := by
  obtain ⟨A, n, c, rfl⟩ := okWide_slice ht hval
  obtain ⟨fuel, hf⟩ := h
  rcases open_ints ht he hc hf with ⟨hcs, _⟩ | ⟨a, len', cap', zs, hcs, _, hl, hm, hz, hx, hcell, hwz⟩
  · simp [Value.cells] at hcs
    obtain ⟨rfl, rfl, rfl⟩ := hcs
    exact ⟨none, 0, [], rfl, Nat.zero_le _, fun h0 => absurd rfl h0⟩
  · simp [Value.cells] at hcs
    obtain ⟨rfl, rfl, rfl⟩ := hcs
    simp only [if_true] at hz
    simp only [Prod.mk.injEq] at hx
    obtain ⟨-, rfl⟩ := hx
    refine ⟨some a, c, zs.take n, ?_, ?_, fun h0 => ⟨a, rfl, ?_, fun j u hj => ?_⟩⟩
    · have : (zs.take n).length = n := by rw [List.length_take]; omega
      rw [this]
    · rw [List.length_take]; omega
    · have hn0 : 0 < n := by
        rcases Nat.eq_zero_or_pos n with e | e
        · subst e; simp at h0
        · exact e
      obtain ⟨b, off, spot⟩ := a
      exact hlt (.cell b off) (MemPlace.mem_row.2 ⟨0, by omega, by simp⟩)
    · have hj1 : j < (zs.take n).length := (List.getElem?_eq_some_iff.1 hj).1
      rw [List.length_take] at hj1
      have hj' : j < zs.length := by omega
      rw [hcell j hj', List.getD_eq_getElem?_getD]
      rw [List.getElem?_take_of_lt (by omega)] at hj
      rw [hj]; rfl
end

/-- While a slice is copied. -/
def CR (W : World) (n : Nat) (l : List Int) (u3 : Value) (X : World) : Prop :=
  ∃ k : Nat, k ≤ n ∧ u3 = .int .i64 k ∧ Below W.heap.size W X ∧ X.ownsRow W.heap.size 3 1 (.slice (some ⟨W.heap.size, 0, none⟩) n n) n (icells (l.take k ++ List.replicate (n - k) 0))
theorem cr_step {W X : World} {n k : Nat} {l : List Int} {u : Int} (hk : k < n) (hn : n = l.length) (hu : l[k]? = some u) (hb : Below W.heap.size W X) (ho : X.ownsRow W.heap.size 3 1 (.slice (some ⟨W.heap.size, 0, none⟩) n n) n (icells (l.take k ++ List.replicate (n - k) 0))) :
    CR W n l (.int .i64 ((k : Int) + 1)) (X.setCell ⟨W.heap.size, k, none⟩ (.int .i64 u)) := by
  refine ⟨k + 1, by omega, by go_num, hb.setCell (Nat.le_refl _) _, ?_⟩
  have h1 := (ho.stored k (.int .i64 u)).1
  have e : (icells (l.take k ++ List.replicate (n - k) 0)).set k (.int .i64 u) = icells (l.take (k + 1) ++ List.replicate (n - (k + 1)) 0) := by
    have hl : (l.take k).length = k := by rw [List.length_take]; omega
    have hr : List.replicate (n - k) (0 : Int) = 0 :: List.replicate (n - (k + 1)) 0 := by
      rw [show n - k = (n - (k + 1)) + 1 by omega]; rfl
    have ht : l.take (k + 1) = l.take k ++ [u] := by rw [List.take_add_one, hu]; rfl
    have hs : (l.take k ++ List.replicate (n - k) 0).set k u = l.take (k + 1) ++ List.replicate (n - (k + 1)) 0 := by
      rw [List.set_append_right _ _ (by omega), hl, Nat.sub_self, hr, ht]
      simp
    rw [← hs]
    simp [icells, List.map_set]
  rwa [e] at h1

set_option maxRecDepth 100000 in
theorem toIntS_any (A : Option Addr) (n c : Nat) (l : List Int) (W : World) (hn : n = l.length) (hm : n ≤ 1048576) (hi : IntsIn W W.heap.size A l) :
    Calls Try.prog 15 #[.slice A n c] W (Ints l W) := by
  obtain ⟨i0, hi0, hz0, hz1, hz2⟩ := info_parts info_int
  have HK := @Lib.hid _ (fun w' v n base => @ints_mk l W w' v n base)
  have hmk := run_make (P := Try.prog) W 26 3 i0 (.int .i64 0) Try.underlying26 hi0 hz0 .i64 .i64 (n : Int) (n : Int) (by omega) (by omega) (by rw [hz2]; omega) (by omega)
  rw [hz1] at hmk
  simp only [Int.toNat_natCast, Nat.mul_one] at hmk
  have HR : Hid (CR W n l (.int .i64 0) (W.alloc (.cells (madeCells (Value.int .i64 0).cells n) 3))) := by
    refine ⟨0, Nat.zero_le _, rfl, below_box W _, ?_⟩
    have := World.ownsRow_lit (base := W.heap.size) (e := 3) (size := 1) W (madeCells (Value.int .i64 0).cells n) n (Nat.le_refl _) (by unfold maxLen; omega) (by rw [size_madeCells]; omega)
    rw [made_zero] at this
    simpa using this
  have HI := Lib.hid hi
  have hn' : l.length = n := hn.symm
  clear hi hn
  go_enter Try.func15, Try.ntmps15
  go_wp2_with fail
  clear hmk
  go_loopw [4] (fun u4 wr => CR W n l u4 wr) (fun u4 _ => n - (intOf u4).toNat)
  case atStart => exact HR.out
  case round =>
    obtain ⟨k, hk, rfl, hb0, ho0⟩ := hrel
    have hbl := Lib.hid hb0
    have ho := Lib.hid ho0
    have hlt : W.heap.size < wr.heap.size := own_lt ho0 _ rfl
    clear hb0 ho0 HR
    by_cases hkn : k < n
    · have hu := List.getElem?_eq_getElem (show k < l.length by omega)
      generalize l[k] = u at hu
      obtain ⟨ad, rfl, hab, hcell⟩ := ints_cell (HI.out.keep (w' := wr) fun p hp => hbl.out.cell hp) hu
      have HN := Lib.hid (cr_step hkn hn'.symm hu hbl.out ho.out)
      have hfz := ho.out.frozenAt k
      have hcw := ho.out.cellAt k (by omega)
      have hold : (icells (l.take k ++ List.replicate (n - k) 0))[k]? = some (.int .i64 0) := by
        have hl : (l.take k).length = k := by rw [List.length_take]; omega
        unfold icells
        rw [List.getElem?_map, List.getElem?_append_right (by omega), hl, Nat.sub_self, List.getElem?_replicate, if_pos (by omega)]
        rfl
      rw [hold] at hcw
      have hk0 : (0 : Int) ≤ (k : Int) := Int.natCast_nonneg _
      have hk1 : (k : Int) < (n : Int) := by omega
      clear hold hu
      go_wp2_with fail
      go_roundw
      case rel => exact HN.out
      case measure => simp [intOf]; omega
    · obtain rfl : k = n := by omega
      go_wp2_with fail
      go_ret
      have h1 := ho.out
      rw [Nat.sub_self, List.replicate_zero, List.append_nil, List.take_of_length_le (by omega)] at h1
      exact HK.out _ _ _ _ hn'.symm h1 (Nat.le_refl _) hbl.out
end Go.Proofs.Ythakbjdkcdppjaa.intA
