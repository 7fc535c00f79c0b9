/- A set of integers as the program keeps it: a map from integers to truth values. -/
import Derived.Test.YthakbjdkcdppjaaIntA
import Derived.Maps.OwnSet

namespace Go.Proofs.Ythakbjdkcdppjaa.setI
open Go.ChangeShapes Go.WideShapes Go.ChangeAt Go.RowKit Go.Maps
open draw gridP gridC intsP reachD intA
set_option linter.unusedVariables false

/-- An element that reads as a truth value is one. -/
theorem plainElem_bool_inv {H : Type} {P : Program} {e : TypeId} (he : P.underlying e = some .bool) {v : Value} {z : DataW H × List MemPlace} (h : plainElem P e v = some z) : ∃ x, v = .bool x ∧ z = (.lit (.bool x), []) := by
  unfold plainElem at h
  rw [he] at h
  cases v <;> simp at h
  obtain ⟨rfl, rfl⟩ := h
  exact ⟨_, rfl, rfl⟩
/-- A look-up in a map of truth values. -/
theorem lookup_bool {H : Type} {P : Program} {k t e : TypeId} {w : World} {b n : Nat} {D : DataW H} (h : w.ownsMap P k (plainElem P e) b n D) (K : Keyed P k) (ht : P.underlying t = some (.map k e)) (he : P.underlying e = some .bool) (hz : (zeroValue e).run P w = .ok (.bool false) w)
    {key : Value} {kl : Lit} (hkey : keyOf P k key = some kl) {x : Bool} (hat : D.atKey kl (.lit (.bool false)) = .lit (.bool x)) : (Instr.lookup t (.map (some b)) key false).run P w = .ok (.bool x) w := by
  obtain ⟨v, ps, hrun, hv⟩ := h.lookup K ht hz (plainElem_bool he false) hkey
  obtain ⟨c, rfl, hc⟩ := plainElem_bool_inv he hv
  simp only [Prod.mk.injEq] at hc
  rw [hat] at hc
  obtain rfl : x = c := by
    have := hc.1
    injection this with this
    injection this
  exact hrun

/-- What a set of these integers reads as. -/
def Sd (l : List Int) : DataW Unit := l.foldl (fun D u => D.put (.int .i64 u) (.lit (.bool true))) (.map [])
theorem sd_snoc (l : List Int) (u : Int) : Sd (l ++ [u]) = (Sd l).put (.int .i64 u) (.lit (.bool true)) := by
  unfold Sd; rw [List.foldl_append]; rfl
theorem fold_at (u : Int) : ∀ (l : List Int) (D : DataW Unit), IsMap D → (l.foldl (fun D u => D.put (.int .i64 u) (.lit (.bool true))) D).atKey (.int .i64 u) (.lit (.bool false)) = if u ∈ l then .lit (.bool true) else D.atKey (.int .i64 u) (.lit (.bool false))
  | [], D, _ => by simp
  | g :: l, D, hD => by
    rw [List.foldl_cons, fold_at u l _ (hD.put _ _)]
    by_cases hl : u ∈ l
    · rw [if_pos hl, if_pos (List.mem_cons_of_mem _ hl)]
    · rw [if_neg hl]
      by_cases e : u = g
      · subst e
        rw [if_pos (by simp)]
        exact atKey_put_same hD (show WideAt.IsKeyLit (.int .i64 u) from trivial) _ _
      · rw [if_neg (by simp [hl, e])]
        exact atKey_put_other (by intro h; injection h; exact e (by assumption)) _ _
theorem sd_at (l : List Int) (u : Int) : (Sd l).atKey (.int .i64 u) (.lit (.bool false)) = .lit (.bool (decide (u ∈ l))) := by
  unfold Sd
  rw [fold_at u l _ isMap_empty]
  split
  · rename_i h; simp [h]
  · rename_i h; simp [h]; rfl

theorem lawI : Keyed Try.prog 3 := int_keyed Try.underlying3
theorem zeroB (w : World) : (zeroValue 4).run Try.prog w = .ok (.bool false) w := by kernel_rfl
/-- Block b is a set of the integers l. -/
def SetR (b n : Nat) (l : List Int) (X : World) : Prop := X.ownsMap Try.prog 3 (plainElem Try.prog 4) b n (Sd l)
theorem SetR.call {b n : Nat} {l : List Int} {X X' : World} (h : SetR b n l X) (hb : Below X.heap.size X X') : SetR b n l X' := by
  have hlt := h.lt
  obtain ⟨es, clock, hb', F, hs, hD⟩ := h
  exact ⟨es, clock, (hb.block _ hlt).trans hb', F, hs, hD⟩
theorem key_int {u : Int} (h : -9223372036854775808 ≤ u ∧ u ≤ 9223372036854775807) : keyOf Try.prog 3 (.int .i64 u) = some (.int .i64 u) := keyOf_int_mk Try.underlying3 (WalkArith.wf_i64 h)

/-- A call answers a set of its own and leaves all that was there. -/
def SetOf (l : List Int) (w : World) (e : Ending) (w' : World) : Prop := ∃ b, e = .returned (.map (some b)) ∧ SetR b l.length l w' ∧ Below w.heap.size w w'
theorem setof_mk {l : List Int} {w w' : World} {b : Nat} (hs : SetR b l.length l w') (hb : Below w.heap.size w w') : SetOf l w (.returned (.map (some b))) w' := ⟨b, rfl, hs, hb⟩

/-- While a set is filled. -/
def SF (W : World) (A : Option Addr) (l : List Int) (k : Nat) (X : World) : Prop := Below W.heap.size W X ∧ SetR W.heap.size k (l.take k) X ∧ IntsIn X W.heap.size A l
theorem sf_start {W : World} {A : Option Addr} {l : List Int} (hi : IntsIn W W.heap.size A l) : SF W A l 0 (W.alloc (.map #[] 0)) := by
  have hb : Below W.heap.size W (W.alloc (.map #[] 0)) := below_box W _
  exact ⟨hb, World.ownsMap_made _ _ _ _, hi.below hb⟩
theorem sf_step {W X X' : World} {A : Option Addr} {l : List Int} {k : Nat} {u : Int} (h : SF W A l k X) (hu : l[k]? = some u) (ho : X'.ownsMap Try.prog 3 (plainElem Try.prog 4) W.heap.size (k + 1) ((Sd (l.take k)).put (.int .i64 u) (.lit (.bool true)))) (hg : X.grownBy X' (some W.heap.size)) : SF W A l (k + 1) X' := by
  obtain ⟨h1, h2, h3⟩ := h
  have hb : Below W.heap.size W X' := h1.grown hg h1.size (fun j hj => by cases hj; exact Nat.le_refl _)
  have ht : l.take (k + 1) = l.take k ++ [u] := by rw [List.take_add_one, hu]; rfl
  refine ⟨hb, ?_, h3.keep fun p hp => ?_⟩
  · unfold SetR; rw [ht, sd_snoc]; exact ho
  · rw [hb.cell hp, h1.cell hp]

set_option maxRecDepth 100000 in
theorem setOf_any (A : Option Addr) (n c : Nat) (l : List Int) (W : World) (hn : n = l.length) (hm : n ≤ 1048576) (hi : IntsIn W W.heap.size A l) (hr : ∀ u ∈ l, -9223372036854775808 ≤ u ∧ u ≤ 9223372036854775807) :
    Calls Try.prog 24 #[.slice A n c] W (SetOf l W) := by
  have HK := @Lib.hid _ (fun w' b => @setof_mk l W w' b)
  have hmm : (Instr.makeMap 47 (some (.int .i64 (n : Int)))).run Try.prog W = .ok (.map (some W.heap.size)) (W.alloc (.map #[] 0)) := by
    simp [Instr.makeMap, go_sem]
  have HR := Lib.hid (sf_start hi)
  have Hr := Lib.hid hr
  have hn' : l.length = n := hn.symm
  have HN := Lib.hid hn'
  clear hi hn hr hn'
  go_enter Try.func24, Try.ntmps24
  go_wp2_with fail
  clear hmm
  go_loopw [11] (fun u11 wr => ∃ k : Nat, k ≤ n ∧ u11 = .int .i64 k ∧ SF W A l k wr) (fun u11 _ => n - (intOf u11).toNat)
  case atStart => exact ⟨0, Nat.zero_le _, rfl, HR.out⟩
  case round =>
    obtain ⟨k, hk, rfl, hsf0⟩ := hrel
    have hsf := Lib.hid hsf0
    clear hsf0 HR
    by_cases hkn : k < n
    · obtain ⟨u, hu, hmem⟩ : ∃ u, l[k]? = some u ∧ u ∈ l := by
        have hkl : k < l.length := by have := HN.out; omega
        exact ⟨l[k], List.getElem?_eq_getElem hkl, List.getElem_mem hkl⟩
      obtain ⟨ad, rfl, hab, hcell⟩ := ints_cell hsf.out.2.2 hu
      have hkey := Lib.hid (key_int (Hr.out u hmem))
      have hown := Lib.hid hsf.out.2.1
      have HNx := @Lib.hid _ (fun X' p1 p2 => @sf_step W wr X' (some ad) l k u hsf.out hu p1 p2)
      have hk0 : (0 : Int) ≤ (k : Int) := Int.natCast_nonneg _
      have hk1 : (k : Int) < (n : Int) := by omega
      clear hu hmem
      go_wp2_with (at_mapUpdate; refine wpList_mapUpdate_own _ rfl _ _ _ 47 rfl 3 4 lawI Try.underlying47 _ W.heap.size k _ rfl hown.out (by unfold maxLen; omega) _ _ _ rfl rfl hkey.out _ [] (plainElem_bool Try.underlying4 true) ?_; intro w1 hown1 hgrow1)
      go_roundw
      case rel => exact ⟨k + 1, by omega, by go_num, HNx.out _ hown1 hgrow1⟩
      case measure => simp [intOf]; omega
    · obtain rfl : k = n := by omega
      go_wp2_with fail
      go_ret
      have h1 := hsf.out.2.1
      rw [List.take_of_length_le (by have := HN.out; omega)] at h1
      exact HK.out _ _ (by rw [HN.out]; exact h1) hsf.out.1
end Go.Proofs.Ythakbjdkcdppjaa.setI
