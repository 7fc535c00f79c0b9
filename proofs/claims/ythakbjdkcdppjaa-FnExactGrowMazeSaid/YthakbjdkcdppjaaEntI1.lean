/- The contract of the program's firstEntries: the places at which a number is new, by a map of those that are missing. -/
import Derived.Test.YthakbjdkcdppjaaEntO
import Derived.Test.YthakbjdkcdppjaaSetH
namespace Go.Proofs.Ythakbjdkcdppjaa.entI
open Go.ChangeShapes Go.WideShapes Go.ChangeAt Go.RowKit Go.Maps
open draw gridP gridC bitP mazeP mazeC mazeM intsP reachP reachM reachN reachD intA listK setI wayP ersP ersO entP entO
set_option linter.unusedVariables false

set_option maxRecDepth 100000 in
/-- A set is made in the next block. -/
theorem setOf_at (A : Option Addr) (n c : Nat) (l : List Int) (W : World) (hn : n = l.length) (hm : n ≤ 1048576) (hi : IntsIn W W.heap.size A l) (hr : ∀ u ∈ l, -9223372036854775808 ≤ u ∧ u ≤ 9223372036854775807) :
    Calls Try.prog 24 #[.slice A n c] W (fun e w' => e = .returned (.map (some W.heap.size)) ∧ SetR W.heap.size l.length l w' ∧ Below W.heap.size W w') := by
  have hmm : (Instr.makeMap 47 (some (.int .i64 (n : Int)))).run Try.prog W = .ok (.map (some W.heap.size)) (W.alloc (.map #[] 0)) := by
    simp [Instr.makeMap, go_sem]
  have HR := Lib.hid (sf_start hi)
  have Hr := Lib.hid hr
  have hn' : l.length = n := hn.symm
  have HN := Lib.hid hn'
  clear hi hn hr hn'
  go_enter Try.func24, Try.ntmps24
  go_wp2_with fail
  clear hmm
  go_loopw [11] (fun u11 wr => ∃ k : Nat, k ≤ n ∧ u11 = .int .i64 k ∧ SF W A l k wr) (fun u11 _ => n - (intOf u11).toNat)
  case atStart => exact ⟨0, Nat.zero_le _, rfl, HR.out⟩
  case round =>
    obtain ⟨k, hk, rfl, hsf0⟩ := hrel
    have hsf := Lib.hid hsf0
    clear hsf0 HR
    by_cases hkn : k < n
    · obtain ⟨u, hu, hmem⟩ : ∃ u, l[k]? = some u ∧ u ∈ l := by
        have hkl : k < l.length := by have := HN.out; omega
        exact ⟨l[k], List.getElem?_eq_getElem hkl, List.getElem_mem hkl⟩
      obtain ⟨ad, rfl, hab, hcell⟩ := ints_cell hsf.out.2.2 hu
      have hkey := Lib.hid (key_int (Hr.out u hmem))
      have hown := Lib.hid hsf.out.2.1
      have HNx := @Lib.hid _ (fun X' p1 p2 => @sf_step W wr X' (some ad) l k u hsf.out hu p1 p2)
      have hk0 : (0 : Int) ≤ (k : Int) := Int.natCast_nonneg _
      have hk1 : (k : Int) < (n : Int) := by omega
      clear hu hmem
      go_wp2_with (at_mapUpdate; refine wpList_mapUpdate_own _ rfl _ _ _ 47 rfl 3 4 lawI Try.underlying47 _ W.heap.size k _ rfl hown.out (by unfold maxLen; omega) _ _ _ rfl rfl hkey.out _ [] (plainElem_bool Try.underlying4 true) ?_; intro w1 hown1 hgrow1)
      go_roundw
      case rel => exact ⟨k + 1, by omega, by go_num, HNx.out _ hown1 hgrow1⟩
      case measure => (try simp [intOf]); omega
    · obtain rfl : k = n := by omega
      go_wp2_with fail
      go_ret
      have h1 := hsf.out.2.1
      rw [List.take_of_length_le (by have := HN.out; omega)] at h1
      exact ⟨rfl, by rw [HN.out]; exact h1, hsf.out.1⟩

/-- What the map of missing numbers reads as, behind the first k. -/
def Ms (D : DataW Unit) (L : List Int) (k : Nat) : Prop := ∀ u : Int, D.atKey (.int .i64 u) (.lit (.bool false)) = .lit (.bool (decide (u ∈ L ∧ u ∉ L.take k)))
theorem ms_new (L : List Int) : Ms (Sd L) L 0 := fun u => by
  rw [sd_at]; simp
theorem ms_old {D : DataW Unit} {L : List Int} {k : Nat} (h : Ms D L k) (hk : k < L.length) (hm : atN L k ∈ L.take k) : Ms D L (k + 1) := fun u => by
  rw [h u, take_one (at_some hk)]
  congr 3
  rw [eq_iff_iff]
  simp only [List.mem_append, List.mem_singleton, not_or]
  constructor
  · rintro ⟨h1, h2⟩; exact ⟨h1, h2, fun e => h2 (by rw [e]; exact hm)⟩
  · rintro ⟨h1, h2, -⟩; exact ⟨h1, h2⟩
theorem ms_del {D : DataW Unit} {L : List Int} {k : Nat} (h : Ms D L k) (hk : k < L.length) : Ms (D.del (.int .i64 (atN L k))) L (k + 1) := fun u => by
  rw [take_one (at_some hk)]
  by_cases e : u = atN L k
  · subst e
    rw [atKey_del_same]; simp
  · rw [atKey_del_other (fun h' => e (by injection h')), h u]
    simp [e]
/-- What stands while the entries are looked for. -/
def FE (W : World) (A : Option Addr) (n : Nat) (L : List Int) (k : Nat) (v : Value) (X : World) : Prop :=
  OL W (W.heap.size + 1) (fsL L k) v X ∧ IntsIn X W.heap.size A L ∧ ∃ D, X.ownsMap Try.prog 3 (plainElem Try.prog 4) W.heap.size n D ∧ Ms D L k
section
variable {W X X' : World} {A : Option Addr} {n k : Nat} {L : List Int} {v : Value}
theorem omap_low {b B : Nat} {D : DataW Unit} (h : X.ownsMap Try.prog 3 (plainElem Try.prog 4) b n D) (hb : Below B X X') (hlt : b < B) : X'.ownsMap Try.prog 3 (plainElem Try.prog 4) b n D := by
  obtain ⟨es, clock, hb', F, hs, hD⟩ := h
  exact ⟨es, clock, (hb.block _ hlt).trans hb', F, hs, hD⟩
theorem ol_turn {b B : Nat} {l : List Int} (h : OL W B l v X) (hg : X.grownBy X' (some b)) (h1 : W.heap.size ≤ b) (h2 : b < B) : OL W B l v X' := by
  obtain ⟨g1, g2, g3, g4⟩ := h
  refine ⟨g1.grown hg g1.size (fun j hj => by cases hj; exact h1), g2, Nat.le_trans g3 hg.size, g4.kept hg ?_⟩
  rcases g4.2 with ⟨rfl, _⟩ | ⟨q, cap, cur, rfl, hq, _⟩
  · exact .inl rfl
  · exact .inr fun e => by simp [Value.ownBlock] at e; omega
theorem fe_start (hi : IntsIn X W.heap.size A L) (hb : Below W.heap.size W X) (hs : SetR W.heap.size L.length L X) (hn : L.length = n) : FE W A n L 0 (.slice none 0 0) X := by
  subst hn
  exact ⟨ol_nil hb (Nat.le_succ _) hs.lt, hi, _, hs, ms_new L⟩
/-- A number that was there. -/
theorem FE.old (h : FE W A n L k v X) (hb : Below X.heap.size X X') (hk : k < L.length) (hm : atN L k ∈ L.take k) : FE W A n L (k + 1) v X' := by
  obtain ⟨h1, h2, D, h3, h4⟩ := h
  exact ⟨by rw [fs_in hm]; exact h1.call hb, h2.below (hb.mono h1.1.size), D, omap_low h3 hb h3.lt, ms_old h4 hk hm⟩
theorem FE.call (h : FE W A n L k v X) (hb : Below X.heap.size X X') : FE W A n L k v X' := by
  obtain ⟨h1, h2, D, h3, h4⟩ := h
  exact ⟨h1.call hb, h2.below (hb.mono h1.1.size), D, omap_low h3 hb h3.lt, h4⟩
/-- A new number: it is taken out .. -/
def FD (W : World) (A : Option Addr) (n : Nat) (L : List Int) (k : Nat) (v : Value) (X : World) : Prop :=
  OL W (W.heap.size + 1) (fsL L k) v X ∧ IntsIn X W.heap.size A L ∧ ∃ D, X.ownsMap Try.prog 3 (plainElem Try.prog 4) W.heap.size n D ∧ Ms D L (k + 1)
theorem fe_del {D : DataW Unit} (h1 : OL W (W.heap.size + 1) (fsL L k) v X) (h2 : IntsIn X W.heap.size A L) (h4 : Ms D L k) (hk : k < L.length)
    (ho : X'.ownsMap Try.prog 3 (plainElem Try.prog 4) W.heap.size n (D.del (.int .i64 (atN L k)))) (hg : X.grownBy X' (some W.heap.size)) : FD W A n L k v X' := by
  have h3 := ol_turn h1 hg (Nat.le_refl _) (Nat.lt_succ_self _)
  refine ⟨h3, h2.below ((Below.refl _ _).grown hg h1.1.size (fun j hj => by cases hj; exact Nat.le_refl _)), _, ho, ms_del h4 hk⟩
/-- .. and its place is kept. -/
theorem FD.app {gg cap : Nat} {o : Obj} (h : FD W A n L k v X) (hm : atN L k ∉ L.take k)
    (ho : X'.ownsRow (W.heap.size + 1) 3 1 (.slice (some ⟨gg, 0, none⟩) ((fsL L k).length + 1) cap) ((fsL L k).length + 1) (icells (fsL L k) ++ icells [(k : Int)])) (hg : (X.alloc o).grownBy X' v.ownBlock) :
    FE W A n L (k + 1) (.slice (some ⟨gg, 0, none⟩) ((fsL L k).length + 1) cap) X' := by
  obtain ⟨h1, h2, D, h3, h4⟩ := h
  obtain ⟨n1, n2⟩ := h1.app ho hg
  exact ⟨by rw [fs_out hm]; exact n1, IntsIn.low h2 (Nat.le_succ _) n2, D, omap_low h3 n2 (Nat.lt_succ_self _), h4⟩
end

/-- Whether a set has a number, where the map's look-up is known. -/
theorem has_at (b n : Nat) (D : DataW Unit) (v : Bool) (u : Int) (W : World) (hs : W.ownsMap Try.prog 3 (plainElem Try.prog 4) b n D) (hat : D.atKey (.int .i64 u) (.lit (.bool false)) = .lit (.bool v)) (hu : -9223372036854775808 ≤ u ∧ u ≤ 9223372036854775807) :
    Calls Try.prog 47 #[.map (some b), .int .i64 u] W (Bl v W) := by
  have HK := @Lib.hid _ (fun w' h => @bl_mk v v W w' rfl h)
  have hl := lookup_bool hs lawI Try.underlying47 Try.underlying4 (zeroB _) (key_int hu) hat
  have HR := Lib.hid (Below.refl W.heap.size W)
  clear hs hat
  go_enter Try.func47, Try.ntmps47
  go_wp2_with fail
  go_ret
  exact HK.out _ HR.out

end Go.Proofs.Ythakbjdkcdppjaa.entI
