/- The contract of the program's function on valid square matrices. -/
import Derived.Test.YtcoikcnijaniaaaDets
import Derived.Test.YtcoikcnijaniaaaRowsP
import Derived.Test.YtcoikcnijaniaaaRowsL
import Derived.Test.YtcoikcnijaniaaaModD
import Derived.Test.YtcoikcnijaniaaaPrgM
import Derived.Lib.SliceRun
import Derived.Deep.RegionLaw

namespace Go.Proofs.Ytcoikcnijaniaaa.detI
open Go.ChangeShapes Go.WideShapes Go.ChangeAt Go.RowKit
open draw gridC mazeC intsP reachD intA intK listK rowsP matP
set_option linter.unusedVariables false

end Go.Proofs.Ytcoikcnijaniaaa.detI

/- The contracts of the library's copying of a row, and of the program's copying of rows. -/
namespace Go.Proofs.Ytcoikcnijaniaaa.detI
open Go.ChangeShapes Go.WideShapes Go.ChangeAt Go.RowKit
open draw gridC mazeC intsP reachD intA intK listK rowsP rowsL
set_option linter.unusedVariables false

set_option maxRecDepth 100000 in
set_option maxHeartbeats 2000000 in
theorem clone_any (A : Option Addr) (n c : Nat) (l : List Int) (W : World) (hn : l.length = n) (hm : n ≤ 1048576) (hi : IntsIn W W.heap.size A l) :
    Calls Try.prog 91 #[.slice A n c] W (Ints l W) := by
  obtain ⟨i0, hi0, hz0, hz1, hz2⟩ := info_parts info_int
  have HK := @Lib.hid _ (fun w' v n base => @ints_mk l W w' v n base)
  have q : ∀ (w : World) (a : Option Addr) (n c n' c' : Nat), (binOp .eql 32 (.slice a n c) (.slice none n' c')).run Try.prog w = .ok (.bool a.isNone) w := fun w a n c n' c' => Lib.run_eql_slice_nil w _ _ a n c n' c' Try.underlying32
  cases A with
  | none =>
    have hl : l = [] := by
      rcases List.eq_nil_or_concat l with h | ⟨_, _, h⟩
      · exact h
      · exact absurd (hi (by rw [h]; simp)) (by rintro ⟨_, h, _⟩; cases h)
    subst hl
    have HR := Lib.hid (Below.refl W.heap.size W)
    have HO : Hid (W.ownsRow W.heap.size 3 1 (.slice none 0 0) 0 (icells [])) := World.ownsRow_nil W W.heap.size 3 1
    clear hi hn
    go_enter Try.func91, Try.ntmps91
    go_wp2_with fail
    go_ret
    exact HK.out _ _ _ _ rfl HO.out (Nat.le_refl _) HR.out
  | some ad =>
    have HI : Hid (∀ j u, (icells l)[j]? = some u → (W.alloc (.cells #[] 3)).cell? (ad.add j) = some u) := Lib.hid fun j u hu => by
      have hne : l ≠ [] := by
        rintro rfl; simp [icells] at hu
      obtain ⟨a', e, hb, hc⟩ := hi hne
      cases e
      unfold icells at hu
      rw [List.getElem?_map] at hu
      cases hl : l[j]? with
      | none => rw [hl] at hu; cases hu
      | some z =>
        rw [hl] at hu
        exact Lib.cell?_alloc_some _ ((hc j z hl).trans (by rw [← Option.some.inj hu]))
    have HO : Hid ((W.alloc (.cells #[] 3)).ownsRow W.heap.size 3 1 (.slice (some ⟨W.heap.size, 0, none⟩) 0 0) 0 []) := Lib.hid (World.ownsRow_made W #[] 0 (Nat.le_refl _) (Nat.zero_le _) rfl)
    have HB := Lib.hid (below_box W (.cells #[] 3))
    have Hn := Lib.hid hn
    clear hi hn
    go_enter Try.func91, Try.ntmps91
    go_wp2_with (at_builtin; refine wpList_append_own _ rfl _ _ 32 rfl W.heap.size 3 i0 _ 1 8 Try.underlying32 hi0 hz0 hz1 hz2 rfl (by decide) _ 0 [] rfl HO.out ad n c (icells l) rfl (by rw [icells_length, Hn.out]; simp) HI.out (oneCellI _) (by unfold maxLen; omega) (by omega) (by simp) ?_; intro v' w1 hown hgrow hnil; clear hnil)
    have hb1 := Lib.hid (HB.out.grown hgrow (by simp) (fun k hk => by cases hk; exact Nat.le_refl _))
    have ho1 : Hid (w1.ownsRow W.heap.size 3 1 v' n (icells l)) := Lib.hid (by simpa using hown)
    obtain ⟨A1, c1, rfl⟩ := intsP.own_form ho1.out
    clear hown hgrow
    go_wp2_with fail
    go_ret
    exact HK.out _ _ _ _ Hn.out.symm ho1.out (Nat.le_refl _) hb1.out

end Go.Proofs.Ytcoikcnijaniaaa.detI

/- The contract of the program's LaplaceOf. -/
namespace Go.Proofs.Ytcoikcnijaniaaa.detI
open Go.ChangeShapes Go.WideShapes Go.ChangeAt Go.RowKit
open draw gridP gridC gridE bitP mazeP mazeC mazeM mazeR intsP reachD intA intK listK rowsP matP matR
set_option linter.unusedVariables false

/-- The rows behind i rounds. -/
def rsL (x y z : Int) (n i : Nat) : List (List Int) := (List.range i).map (lpr x y z n) ++ List.replicate (n - i) []
theorem rs_len {x y z : Int} {n i : Nat} (hi : i ≤ n) : (rsL x y z n i).length = n := by simp [rsL]; omega
theorem rs_next {x y z : Int} {n i : Nat} (hi : i < n) : rsL x y z n (i + 1) = (rsL x y z n i).set i (lpr x y z n i) := by
  unfold rsL
  have e1 : ((List.range i).map (lpr x y z n)).length = i := by simp
  have e2 : List.replicate (n - i) ([] : List Int) = [] :: List.replicate (n - (i + 1)) [] := by rw [show n - i = (n - (i + 1)) + 1 by omega]; rfl
  rw [List.set_append_right _ _ (by omega), e1, Nat.sub_self, e2, List.set_cons_zero, List.range_succ, List.map_append]
  simp
theorem rs_all (x y z : Int) (n : Nat) : rsL x y z n n = (List.range n).map (lpr x y z n) := by simp [rsL]

/-- The rows, the maze's block. -/
def OS (W : World) (x y z : Int) (n g : Nat) (ls : List (List Int)) (X : World) : Prop := ML W (W.heap.size + 1) ls (.slice (some ⟨g, 0, none⟩) n n) X ∧ MBox W.heap.size x y z X
theorem OS.call {W X X' : World} {x y z : Int} {n g : Nat} {ls : List (List Int)} (h : OS W x y z n g ls X) (hb : Below X.heap.size X X') : OS W x y z n g ls X' := ⟨h.1.call hb, h.2.call hb⟩
/-- The same while row i is written, from the ways ds. -/
def IS (W : World) (x y z : Int) (n g q i : Nat) (ls : List (List Int)) (ds : List Int) (v : Value) (X : World) : Prop :=
  OS W x y z n g ls X ∧ X.ownsRow (W.heap.size + 1) 3 1 v ds.length (icells ds) ∧ (∀ p, v.ownBlock = some p → p < q) ∧ X.cell? ⟨g, i, none⟩ = some (.slice (some ⟨q, 0, none⟩) n n) ∧ W.heap.size < g ∧ g < q ∧ q < X.heap.size
theorem IS.call {W X X' : World} {x y z : Int} {n g q i : Nat} {ls : List (List Int)} {ds : List Int} {v : Value} (h : IS W x y z n g q i ls ds v X) (hb : Below X.heap.size X X') : IS W x y z n g q i ls ds v X' := by
  obtain ⟨h1, h2, h3, h4, h5, h6, h7⟩ := h
  exact ⟨h1.call hb, own_call h2 hb, h3, (hb.cell (p := ⟨g, i, none⟩) (by show g < _; omega)).trans h4, h5, h6, Nat.lt_of_lt_of_le h7 hb.size⟩
theorem IS.dr {W X : World} {x y z : Int} {n g q i : Nat} {ls : List (List Int)} {ds : List Int} {v : Value} (h : IS W x y z n g q i ls ds v X) : IS W x y z n g q i ls ds v X.drew := h.call ⟨rfl, rfl, rfl, Nat.le_refl _, fun _ _ => rfl⟩
theorem IS.put {W X : World} {x y z : Int} {n g q i s : Nat} {ls : List (List Int)} {l ds : List Int} {v : Value} {u : Int} (h : IS W x y z n g q i ls ds v X) (hl : ls[i]? = some l) (hn : l.length = n) :
    IS W x y z n g q i (ls.set i (l.set s u)) ds v (X.setCell ⟨q, s, none⟩ (.int .i64 u)) := by
  obtain ⟨⟨h1, h0⟩, h2, h3, h4, h5, h6, h7⟩ := h
  have hnl := mx_num h1.2.2.2
  have hil := (List.getElem?_eq_some_iff.1 hl).1
  have hra := row_at h1.2.2.2 hil h4
  have hp := h1.2.2.2.put hl (j := s) (g := q) (ci := n) (by rw [hn]; simpa [hnl] using hra) u
  have hz : (X.setCell ⟨q, s, none⟩ (.int .i64 u)).heap.size = X.heap.size := by simp [World.setCell]
  have hbl : Below (g + 1) X (X.setCell ⟨q, s, none⟩ (.int .i64 u)) := (Below.refl _ _).setCell (by show g + 1 ≤ q; omega) _
  refine ⟨⟨⟨h1.1.setCell (by show W.heap.size ≤ q; omega) _, h1.2.1, by rw [hz]; exact h1.2.2.1, by rw [hz]; exact hp.1⟩, mbox_keep h0 (Nat.lt_trans h5 (Nat.lt_succ_self g)) hbl⟩, h2.kept hp.2.1 ?_, h3, (hbl.cell (p := ⟨g, i, none⟩) (Nat.lt_succ_self g)).trans h4, h5, h6, by rw [hz]; exact h7⟩
  cases hv : v.ownBlock with
  | none => exact .inl rfl
  | some p =>
    refine .inr fun e => ?_
    have := h3 p hv
    have := Option.some.inj e
    omega
theorem IS.box {W X : World} {x y z : Int} {n g q i : Nat} {ls : List (List Int)} {ds : List Int} {v : Value} (h : IS W x y z n g q i ls ds v X) : X.cell? ⟨g, i, none⟩ = some (.slice (some ⟨q, 0, none⟩) n n) ∧ X.cell? ⟨W.heap.size, 0, none⟩ = some (.int .i64 x) ∧ X.cell? ⟨W.heap.size, 1, none⟩ = some (.int .i64 y) ∧ X.cell? ⟨W.heap.size, 2, none⟩ = some (.int .i64 z) := by
  obtain ⟨⟨h1, h0⟩, h2, h3, h4, h5, h6, h7⟩ := h
  obtain ⟨c0, c1, c2⟩ := h0.1
  exact ⟨h4, c0, c1, c2⟩
theorem IS.spot {W X : World} {x y z : Int} {n g q i s : Nat} {ls : List (List Int)} {l ds : List Int} {v : Value} (h : IS W x y z n g q i ls ds v X) (hl : ls[i]? = some l) (hn : l.length = n) (hs : s < n) : (∃ u, X.cell? ⟨q, s, none⟩ = some (.int .i64 u)) ∧ X.frozen? ⟨q, s, none⟩ = false := by
  obtain ⟨⟨h1, h0⟩, h2, h3, h4, h5, h6, h7⟩ := h
  obtain ⟨-, g', e, -, -, -, A, c, e1, o1, -⟩ := h1.2.2.2.row hl
  cases e
  rw [h4] at e1
  injection e1 with e1
  injection e1 with e1 e2 e3
  subst e1 e3
  rw [hn] at o1
  exact ⟨⟨_, own_cellI o1 (List.getElem?_eq_getElem (by omega))⟩, o1.frozenAt s⟩
/-- A row of zeros takes its place, and the number of ways is stored. -/
theorem is_start {W X X2 : World} {x y z : Int} {n g i : Nat} {ls : List (List Int)} {ds : List Int} {v : Value} {u : Int} (h : OS W x y z n g ls X) (hb : Below X.heap.size X X2) (ho : X2.ownsRow X.heap.size 3 1 v ds.length (icells ds)) (hi : i < ls.length) (hn : n ≤ 1048576) (hin : i < n) :
    ((∃ old, X2.cell? ⟨g, i, none⟩ = some old) ∧ X2.frozen? ⟨g, i, none⟩ = false ∧ g < X2.heap.size) ∧ (madeCells #[.int .i64 0] n)[i]? = some (.int .i64 0) ∧
    IS W x y z n g X2.heap.size i (ls.set i ((List.replicate n 0).set i u)) ds v (((X2.alloc (.cells (madeCells #[.int .i64 0] n) 3)).setCell ⟨g, i, none⟩ (.slice (some ⟨X2.heap.size, 0, none⟩) n n)).setCell ⟨X2.heap.size, i, none⟩ (.int .i64 u)) := by
  have h2 := h.call hb
  have hnl := mx_num h2.1.2.2.2
  have hgb : W.heap.size + 1 ≤ g ∧ g < X2.heap.size := by
    obtain ⟨cs, o1, o2, -⟩ := h2.1.2.2.2
    exact ⟨(o1.lt g rfl).1, o2 g rfl⟩
  have hba : Below X2.heap.size X2 (X2.alloc (.cells (madeCells #[.int .i64 0] n) 3)) := below_box X2 _
  have h3 := h2.call hba
  have hr0 := World.ownsRow_lit (base := X2.heap.size) (e := 3) (size := 1) X2 (madeCells (Value.int .i64 0).cells n) n (Nat.le_refl _) (by unfold maxLen; omega) (by rw [size_madeCells]; omega)
  rw [made_zero] at hr0
  have hr : (X2.alloc (.cells (madeCells #[.int .i64 0] n) 3)).ownsRow X2.heap.size 3 1 (.slice (some ⟨X2.heap.size, 0, none⟩) n n) n (icells (List.replicate n 0)) := hr0
  have hg0 : ∃ old, X2.cell? ⟨g, i, none⟩ = some old := by
    obtain ⟨-, g', e, -, -, -, A, c, e1, -⟩ := h2.1.2.2.2.row (List.getElem?_eq_getElem hi)
    cases e
    exact ⟨_, e1⟩
  have hgf : X2.frozen? ⟨g, i, none⟩ = false := by
    obtain ⟨cs, o1, -⟩ := h2.1.2.2.2
    rw [← hnl] at o1
    exact o1.frozenAt i
  have hmc : (madeCells #[.int .i64 0] n)[i]? = some (.int .i64 0) := by
    rw [← Array.getElem?_toList]
    show (madeCells (Value.int .i64 0).cells n).toList[i]? = _
    rw [made_zero, icells_at _ i (by simpa using hin)]; simp
  refine ⟨⟨hg0, hgf, hgb.2⟩, hmc, ?_⟩
  have hz : (X2.alloc (.cells (madeCells #[.int .i64 0] n) 3)).heap.size = X2.heap.size + 1 := by simp
  have hm := (h2.1.2.2.2.call hba).take (t' := X2.heap.size + 1) (i := i) (r := .slice (some ⟨X2.heap.size, 0, none⟩) n n) (l := List.replicate n 0) hi (Nat.le_succ _) (by rw [List.length_replicate]; exact own_base hr (by omega)) (fun p e => by cases e; exact ⟨Nat.le_refl _, Nat.lt_succ_self _⟩)
  have hz2 : ((X2.alloc (.cells (madeCells #[.int .i64 0] n) 3)).setCell ⟨g, i, none⟩ (.slice (some ⟨X2.heap.size, 0, none⟩) n n)).heap.size = X2.heap.size + 1 := by simp [World.setCell]
  have hbs : Below (W.heap.size + 1) (X2.alloc (.cells (madeCells #[.int .i64 0] n) 3)) ((X2.alloc (.cells (madeCells #[.int .i64 0] n) 3)).setCell ⟨g, i, none⟩ (.slice (some ⟨X2.heap.size, 0, none⟩) n n)) := (Below.refl _ _).setCell hgb.1 _
  have hw := own_call (own_call ho hba) (Below.refl _ _)
  have hcell : ((X2.alloc (.cells (madeCells #[.int .i64 0] n) 3)).setCell ⟨g, i, none⟩ (.slice (some ⟨X2.heap.size, 0, none⟩) n n)).cell? ⟨g, i, none⟩ = some (.slice (some ⟨X2.heap.size, 0, none⟩) n n) := by
    obtain ⟨cs, o1, -⟩ := hm
    obtain ⟨cs0, o0, -⟩ := h3.1.2.2.2
    rw [← hnl] at o0
    rw [(o0.stored i (.slice (some ⟨X2.heap.size, 0, none⟩) n n)).1.cellAt i (by omega), List.getElem?_set_self (by have := o0.1; omega)]
  have hst : IS W x y z n g X2.heap.size i (ls.set i (List.replicate n 0)) ds v ((X2.alloc (.cells (madeCells #[.int .i64 0] n) 3)).setCell ⟨g, i, none⟩ (.slice (some ⟨X2.heap.size, 0, none⟩) n n)) := by
    refine ⟨⟨⟨h3.1.1.setCell (by show W.heap.size ≤ g; omega) _, h3.1.2.1, by rw [hz2]; omega, by rw [hz2]; exact hm⟩, mbox_keep h3.2 (Nat.lt_succ_self _) hbs⟩, ?_, fun p e => (ho.lt p e).2, hcell, by omega, hgb.2, by rw [hz2]; exact Nat.lt_succ_self _⟩
    obtain ⟨cs0, o0, -⟩ := h3.1.2.2.2
    rw [← hnl] at o0
    have ho2 := own_call ho hba
    exact own_base (ho2.kept (o0.stored i (.slice (some ⟨X2.heap.size, 0, none⟩) n n)).2 (splP.own_ne ho2 o0 (by decide))) (Nat.le_trans (by have := h.1.2.2.1; omega) (Nat.le_refl _))
  have hfin := hst.put (s := i) (u := u) (l := List.replicate n 0) (List.getElem?_set_self hi) (by simp)
  rw [List.set_set] at hfin
  exact hfin

end Go.Proofs.Ytcoikcnijaniaaa.detI

/- Euclid's way to a determinant, without the program: rows are added to one another and exchanged, with wraparound; at the end it is the product of the diagonal. -/
namespace Go.Proofs.Ytcoikcnijaniaaa.eucP
open Go.RowKit
open matP matX detP
set_option linter.unusedVariables false

theorem wadd {a b c d : Int} (h1 : wrap64 a = wrap64 b) (h2 : wrap64 c = wrap64 d) : wrap64 (a + c) = wrap64 (b + d) := by
  rw [← wrap_add a c, h1, wrap_add, ← wrap_add' b c, h2, wrap_add']
theorem wmul {a b c d : Int} (h1 : wrap64 a = wrap64 b) (h2 : wrap64 c = wrap64 d) : wrap64 (a * c) = wrap64 (b * d) := by
  rw [← wrap_mul a c, h1, wrap_mul, ← wrap_mul' b c, h2, wrap_mul']
theorem io_wrap {r q : Nat → Int} : ∀ {cs : List Nat} {f g : List Nat → Int}, (∀ c ∈ cs, wrap64 (r c) = wrap64 (q c)) → (∀ l, (∀ c ∈ l, c ∈ cs) → wrap64 (f l) = wrap64 (g l)) → wrap64 (io r f cs) = wrap64 (io q g cs)
  | [], _, _, _, _ => rfl
  | c :: cs, f, g, h, h' => by
    unfold io
    refine wadd (wmul (wmul rfl (h c (by simp))) (h' cs fun d hd => by simp [hd])) (io_wrap (fun d hd => h d (by simp [hd])) fun l hl => h' (c :: l) fun d hd => ?_)
    rcases List.mem_cons.1 hd with e | e
    · simp [e]
    · simp [hl d e]
theorem dt_wrap : ∀ {ps : List ((Nat → Int) × (Nat → Int))} {cs : List Nat}, (∀ p ∈ ps, ∀ c ∈ cs, wrap64 (p.1 c) = wrap64 (p.2 c)) → wrap64 (dt (ps.map (·.1)) cs) = wrap64 (dt (ps.map (·.2)) cs)
  | [], _, _ => rfl
  | p :: ps, cs, h => io_wrap (h p (by simp)) fun m hm => dt_wrap fun q hq c hc => h q (by simp [hq]) c (hm c hc)
theorem dm_wrap {a b : Nat → Nat → Int} {I : List Nat} (h : ∀ i ∈ I, ∀ j ∈ I, wrap64 (a i j) = wrap64 (b i j)) : wrap64 (dm a I) = wrap64 (dm b I) := by
  have := dt_wrap (ps := I.reverse.map fun u => (a u, b u)) (cs := I) fun p hp c hc => by
    obtain ⟨u, hu, rfl⟩ := List.mem_map.1 hp
    exact h u (List.mem_reverse.1 hu) c hc
  simpa [dm, List.map_map, Function.comp_def] using this
/-- A row is added to another one so many times. -/
theorem dm_added {a b : Nat → Nat → Int} {I : List Nat} {i k : Nat} {t : Int} (hI : I.Nodup) (hi : i ∈ I) (hk : k ∈ I) (hne : i ≠ k) (hb : b i = fun c => a i c + t * a k c) (ho : ∀ r, r ≠ i → b r = a r) : dm b I = dm a I := by
  unfold dm
  have hn : I.reverse.Nodup := List.pairwise_reverse.2 (List.Pairwise.imp (fun h e => h e.symm) hI)
  have hi' : i ∈ I.reverse := List.mem_reverse.2 hi
  have hk' : k ∈ I.reverse := List.mem_reverse.2 hk
  generalize I.reverse = J at *
  obtain ⟨s, u, rfl⟩ := List.append_of_mem hi'
  obtain ⟨n1, n2, n3⟩ := List.nodup_append.1 hn
  have his : i ∉ s := fun h => n3 i h i List.mem_cons_self rfl
  have hiu : i ∉ u := (List.nodup_cons.1 n2).1
  have hm : ∀ v : List Nat, i ∉ v → v.map b = v.map a := fun v h => List.map_congr_left fun r hr => ho r (fun e => h (e ▸ hr))
  rw [List.map_append, List.map_cons, hm s his, hm u hiu, hb, dt_add, dt_mul, List.map_append, List.map_cons]
  have hmem : a k ∈ s.map a ++ u.map a := by
    rw [← List.map_append]
    refine List.mem_map.2 ⟨k, ?_, rfl⟩
    rcases List.mem_append.1 hk' with h | h
    · exact List.mem_append.2 (.inl h)
    · exact List.mem_append.2 (.inr ((List.mem_cons.1 h).resolve_left (fun e => hne e.symm)))
  rw [dt_move (a k), dt_twice hmem, Int.mul_zero, Int.mul_zero, Int.add_zero]
/-- The product of the diagonal. -/
def pd (a : Nat → Nat → Int) : Nat → Int
  | 0 => 1
  | k + 1 => pd a k * a k k
theorem pd_congr {a b : Nat → Nat → Int} : ∀ {n : Nat}, (∀ i, i < n → a i i = b i i) → pd a n = pd b n
  | 0, _ => rfl
  | n + 1, h => by unfold pd; rw [pd_congr (fun i hi => h i (by omega)), h n (by omega)]
theorem dm_tri {a : Nat → Nat → Int} : ∀ {n : Nat}, (∀ i j, i < n → j < i → a i j = 0) → dm a (List.range n) = pd a n
  | 0, _ => rfl
  | n + 1, h => by
    have ih := dm_tri (a := a) (n := n) fun i j hi hj => h i j (by omega) hj
    unfold dm at ih ⊢
    rw [List.range_succ, List.reverse_append]
    show io (a n) (dt ((List.range n).reverse.map a)) (List.range n ++ [n]) = _
    rw [io_last fun c hc => h n c (by omega) (List.mem_range.1 hc), ih, pd, Int.mul_comm]

/-! ### lists -/
theorem mfn_set {ms : List (List Int)} {i k j : Nat} {l : List Int} (hi : i < ms.length) : mfn (ms.set i l) k j = if k = i then l.getD j 0 else mfn ms k j := by
  unfold mfn
  by_cases h : k = i
  · subst h
    simp [List.getD_eq_getElem?_getD, List.getElem?_set_self hi]
  · simp [List.getD_eq_getElem?_getD, List.getElem?_set_ne (fun e => h e.symm), h]
/-- A row is added to another one so many times. -/
def adL (l m : List Int) (t : Int) : List Int := List.zipWith (fun x y => wrap64 (x + wrap64 (t * y))) l m
theorem ad_len {l m : List Int} {t : Int} (h : l.length = m.length) : (adL l m t).length = l.length := by unfold adL; rw [List.length_zipWith]; omega
theorem ad_at {l m : List Int} {t x y : Int} {j : Nat} (hx : l[j]? = some x) (hy : m[j]? = some y) : (adL l m t)[j]? = some (wrap64 (x + wrap64 (t * y))) := by
  unfold adL; rw [List.getElem?_zipWith, hx, hy]
theorem ad_get {l m : List Int} {t : Int} {j : Nat} (h : l.length = m.length) (hj : j < l.length) : (adL l m t).getD j 0 = wrap64 (l.getD j 0 + wrap64 (t * m.getD j 0)) := by
  have h1 := List.getElem?_eq_getElem hj
  have h2 := List.getElem?_eq_getElem (show j < m.length by omega)
  rw [List.getD_eq_getElem?_getD, ad_at h1 h2, List.getD_eq_getElem?_getD, List.getD_eq_getElem?_getD, h1, h2]; rfl
/-- The first c columns are done. -/
def adC (l m : List Int) (t : Int) (c : Nat) : List Int := (adL l m t).take c ++ l.drop c
theorem adc_zero (l m : List Int) (t : Int) : adC l m t 0 = l := by simp [adC]
theorem adc_all {l m : List Int} {t : Int} (h : l.length = m.length) : adC l m t l.length = adL l m t := by
  unfold adC; rw [List.drop_length, List.append_nil, List.take_of_length_le (by rw [ad_len h]; omega)]
theorem adc_len {l m : List Int} {t : Int} (h : l.length = m.length) (c : Nat) : (adC l m t c).length = l.length := by
  unfold adC; rw [List.length_append, List.length_take, List.length_drop, ad_len h]; omega
theorem adc_at {l m : List Int} {t x : Int} {c : Nat} (h : l.length = m.length) (hx : l[c]? = some x) : (adC l m t c)[c]? = some x := by
  have hc := (List.getElem?_eq_some_iff.1 hx).1
  unfold adC
  rw [List.getElem?_append_right (by rw [List.length_take]; omega), List.length_take, ad_len h, List.getElem?_drop, show c + (c - min c l.length) = c by omega, hx]
theorem adc_next {l m : List Int} {t x y : Int} {c : Nat} (h : l.length = m.length) (hx : l[c]? = some x) (hy : m[c]? = some y) : adC l m t (c + 1) = (adC l m t c).set c (wrap64 (x + wrap64 (t * y))) := by
  have hc := (List.getElem?_eq_some_iff.1 hx).1
  apply List.ext_getElem?
  intro j
  by_cases hj : j = c
  · subst hj
    rw [List.getElem?_set_self (by rw [adc_len h]; exact hc)]
    unfold adC
    rw [List.getElem?_append_left (by rw [List.length_take, ad_len h]; omega), List.getElem?_take_of_lt (by omega), ad_at hx hy]
  · rw [List.getElem?_set_ne (fun e => hj e.symm)]
    unfold adC
    by_cases hl : j < c
    · rw [List.getElem?_append_left (by rw [List.length_take, ad_len h]; omega), List.getElem?_append_left (by rw [List.length_take, ad_len h]; omega), List.getElem?_take_of_lt (by omega), List.getElem?_take_of_lt hl]
    · rw [List.getElem?_append_right (by rw [List.length_take, ad_len h]; omega), List.getElem?_append_right (by rw [List.length_take, ad_len h]; omega), List.getElem?_drop, List.getElem?_drop, List.length_take, List.length_take, ad_len h]
      congr 1; omega

/-! ### what Euclid's way keeps -/
structure Eu (ms : List (List Int)) (n τ ρ : Nat) (s D : Int) : Prop where
  len : ms.length = n
  row : ∀ l ∈ ms, l.length = n
  rng : ∀ l ∈ ms, ∀ z ∈ l, -9223372036854775808 ≤ z ∧ z ≤ 9223372036854775807
  tri : ∀ i j, i < n → j < τ → j < i → mfn ms i j = 0
  zr : ∀ i, τ < i → i < ρ → mfn ms i τ = 0
  val : ∃ e : Int, s = wrap64 (e * pd (mfn ms) τ) ∧ wrap64 (e * dm (mfn ms) (List.range n)) = D
theorem eu_start {ms : List (List Int)} {n : Nat} (h1 : ms.length = n) (h2 : ∀ l ∈ ms, l.length = n) (h3 : ∀ l ∈ ms, ∀ z ∈ l, -9223372036854775808 ≤ z ∧ z ≤ 9223372036854775807) : Eu ms n 0 1 1 (wrap64 (dm (mfn ms) (List.range n))) :=
  ⟨h1, h2, h3, fun i j _ h => absurd h (by omega), fun i h h' => absurd h (by omega), 1, by show (1 : Int) = wrap64 (1 * 1); unfold wrap64; omega, by rw [Int.one_mul]⟩
theorem Eu.next {ms : List (List Int)} {n τ ρ : Nat} {s D : Int} (h : Eu ms n τ ρ s D) (h0 : mfn ms ρ τ = 0) : Eu ms n τ (ρ + 1) s D :=
  ⟨h.len, h.row, h.rng, h.tri, fun i h1 h2 => by
    rcases Nat.lt_or_ge i ρ with h' | h'
    · exact h.zr i h1 h'
    · rw [show i = ρ by omega]; exact h0, h.val⟩
theorem Eu.turn {ms : List (List Int)} {n τ : Nat} {s D : Int} (h : Eu ms n τ n s D) : Eu ms n (τ + 1) (τ + 2) (wrap64 (s * mfn ms τ τ)) D := by
  obtain ⟨e, h1, h2⟩ := h.val
  refine ⟨h.len, h.row, h.rng, fun i j hi hj hji => ?_, fun i h1 h2 => absurd h1 (by omega), e, ?_, h2⟩
  · rcases Nat.lt_or_ge j τ with h' | h'
    · exact h.tri i j hi h' hji
    · obtain rfl : j = τ := by omega
      exact h.zr i hji hi
  · rw [h1, wrap_mul, pd, Int.mul_assoc]
theorem Eu.done {ms : List (List Int)} {n ρ : Nat} {s D : Int} (h : Eu ms n n ρ s D) : s = D := by
  obtain ⟨e, h1, h2⟩ := h.val
  rw [h1, ← h2, dm_tri fun i j hi hj => h.tri i j hi (by omega) hj]
theorem Eu.step {ms : List (List Int)} {n τ ρ : Nat} {s D t : Int} {lt lr : List Int} (h : Eu ms n τ ρ s D) (hτ : τ < ρ) (hρ : ρ < n) (h1 : ms[τ]? = some lt) (h2 : ms[ρ]? = some lr) :
    Eu ((ms.set τ lr).set ρ (adL lt lr t)) n τ ρ (wrap64 (-s)) D := by
  have m1 : lt ∈ ms := List.mem_of_getElem? h1
  have m2 : lr ∈ ms := List.mem_of_getElem? h2
  have l1 := h.row lt m1
  have l2 := h.row lr m2
  have hn := h.len
  have g1 : ∀ j, mfn ms τ j = lt.getD j 0 := fun j => by simp [mfn, List.getD_eq_getElem?_getD, h1]
  have g2 : ∀ j, mfn ms ρ j = lr.getD j 0 := fun j => by simp [mfn, List.getD_eq_getElem?_getD, h2]
  have hS : ∀ k j, mfn ((ms.set τ lr).set ρ (adL lt lr t)) k j = if k = ρ then (adL lt lr t).getD j 0 else if k = τ then lr.getD j 0 else mfn ms k j := fun k j => by
    rw [mfn_set (by rw [List.length_set]; omega), mfn_set (by omega)]
  have hmem : ∀ l ∈ (ms.set τ lr).set ρ (adL lt lr t), l ∈ ms ∨ l = adL lt lr t := fun l hl => by
    rcases List.mem_or_eq_of_mem_set hl with h | h
    · rcases List.mem_or_eq_of_mem_set h with h | h
      · exact .inl h
      · exact .inl (h ▸ m2)
    · exact .inr h
  have had : ∀ j, j < n → (adL lt lr t).getD j 0 = wrap64 (mfn ms τ j + wrap64 (t * mfn ms ρ j)) := fun j hj => by rw [ad_get (by omega) (by omega), g1, g2]
  refine ⟨by simp [hn], fun l hl => ?_, fun l hl z hz => ?_, fun i j hi hj hji => ?_, fun i hi hi2 => ?_, ?_⟩
  · rcases hmem l hl with h' | rfl
    · exact h.row l h'
    · rw [ad_len (by omega), l1]
  · rcases hmem l hl with h' | rfl
    · exact h.rng l h' z hz
    · obtain ⟨j, hj, rfl⟩ := List.mem_iff_getElem.1 hz
      have hj2 : j < lt.length := by rw [ad_len (by omega)] at hj; exact hj
      have := ad_at (t := t) (List.getElem?_eq_getElem hj2) (List.getElem?_eq_getElem (show j < lr.length by omega))
      rw [List.getElem?_eq_getElem hj] at this
      rw [Option.some.inj this]
      exact wrap_bd _
  · rw [hS]
    have z1 := h.tri τ j (by omega) hj hj
    have z2 := h.tri ρ j hρ hj (by omega)
    split
    · rw [had j (by omega), z1, z2, Int.mul_zero, matX.wrap_zero]; exact matX.wrap_zero
    · split
      · rw [← g2]; exact z2
      · exact h.tri i j hi hj hji
  · rw [hS, if_neg (by omega), if_neg (by omega)]
    exact h.zr i hi hi2
  · obtain ⟨e, e1, e2⟩ := h.val
    refine ⟨-e, ?_, ?_⟩
    · rw [e1, wrap_neg, Int.neg_mul]
      congr 3
      exact pd_congr fun i hi => by rw [hS, if_neg (by omega), if_neg (by omega)]
    · have hR : (List.range n).Nodup := List.nodup_range
      have hr1 : τ ∈ List.range n := List.mem_range.2 (by omega)
      have hr2 : ρ ∈ List.range n := List.mem_range.2 hρ
      have hJ : ((List.range n).reverse).Nodup := List.pairwise_reverse.2 (List.Pairwise.imp (fun h e => h e.symm) hR)
      -- the row is added
      let b : Nat → Nat → Int := fun i => if i = τ then fun c => mfn ms τ c + t * mfn ms ρ c else mfn ms i
      have d1 : dm b (List.range n) = dm (mfn ms) (List.range n) := dm_added (i := τ) (k := ρ) (t := t) hR hr1 hr2 (by omega) (by simp [b]) (fun r hr => by simp [b, hr])
      let b' : Nat → Nat → Int := mfn (ms.set τ (adL lt lr t))
      have d2 : wrap64 (dm b' (List.range n)) = wrap64 (dm b (List.range n)) := dm_wrap fun i hi j hj => by
        have hj := List.mem_range.1 hj
        show wrap64 (mfn (ms.set τ (adL lt lr t)) i j) = wrap64 ((if i = τ then fun c => mfn ms τ c + t * mfn ms ρ c else mfn ms i) j)
        rw [mfn_set (by omega)]
        by_cases e : i = τ
        · rw [if_pos e, if_pos e, had j hj, wrap_twice, wrap_add']
        · rw [if_neg e, if_neg e]
      have d3 : dm (mfn ((ms.set τ lr).set ρ (adL lt lr t))) (List.range n) = - dm b' (List.range n) := by
        unfold dm
        refine dt_exch (i := τ) (k := ρ) hJ (List.mem_reverse.2 hr1) (List.mem_reverse.2 hr2) (by omega) ?_ ?_ (fun r h1 h2 => ?_) _
        · funext j
          show _ = mfn (ms.set τ (adL lt lr t)) ρ j
          rw [hS, if_neg (by omega), if_pos rfl, mfn_set (by omega), if_neg (by omega), g2]
        · funext j
          show _ = mfn (ms.set τ (adL lt lr t)) τ j
          rw [hS, if_pos rfl, mfn_set (by omega), if_pos rfl]
        · funext j
          show _ = mfn (ms.set τ (adL lt lr t)) r j
          rw [hS, if_neg h2, if_neg h1, mfn_set (by omega), if_neg h1]
      rw [d3, Int.neg_mul_neg, ← wrap_mul', d2, wrap_mul', d1]
      exact e2
/-- The entry becomes smaller. -/
theorem eu_less {a b : Int} (ha : -9223372036854775808 ≤ a ∧ a ≤ 9223372036854775807) (hb : -9223372036854775808 ≤ b ∧ b ≤ 9223372036854775807) (h0 : b ≠ 0) :
    wrap64 (a + wrap64 (wrap64 (- wrap64 (a.tdiv b)) * b)) = a.tmod b ∧ (a.tmod b).natAbs < b.natAbs := by
  have hlt : (a.tmod b).natAbs < b.natAbs := by
    rw [Int.natAbs_tmod]
    exact Nat.mod_lt _ (by omega)
  refine ⟨?_, hlt⟩
  have e : a + (-(a.tdiv b)) * b = a.tmod b := by
    have := Int.tmod_add_mul_tdiv a b
    rw [Int.neg_mul, Int.mul_comm]; omega
  rw [wrap_add', ← wrap_add', wrap_mul, ← wrap_mul (-_), wrap_neg, wrap_mul, wrap_add', e]
  unfold wrap64; omega
end Go.Proofs.Ytcoikcnijaniaaa.eucP

/- The contracts of the library's Delete at rows and at integers, and of the program's leaving out of a row and a column. -/
namespace Go.Proofs.Ytcoikcnijaniaaa.detI
open Go.ChangeShapes Go.WideShapes Go.ChangeAt Go.RowKit
open draw gridC mazeC intsP reachD intA intK listK rowsP rowsL matP
set_option linter.unusedVariables false

/-! ### cells stored one after the other -/
def sets (xs : List Value) (o : Nat) : List Value → List Value
  | [] => xs
  | v :: vs => sets (xs.set o v) (o + 1) vs
theorem sets_len : ∀ (vs xs : List Value) (o : Nat), (sets xs o vs).length = xs.length
  | [], _, _ => rfl
  | v :: vs, xs, o => by rw [sets, sets_len vs, List.length_set]
theorem sets_at : ∀ (vs xs : List Value) (o j : Nat), j < xs.length → (sets xs o vs)[j]? = if o ≤ j ∧ j < o + vs.length then vs[j - o]? else xs[j]?
  | [], xs, o, j, h => by rw [sets, if_neg (by simp only [List.length_nil]; omega)]
  | v :: vs, xs, o, j, h => by
    rw [sets, sets_at vs _ _ _ (by simpa using h)]
    by_cases h1 : o + 1 ≤ j ∧ j < o + 1 + vs.length
    · rw [if_pos h1, if_pos ⟨by omega, by simp; omega⟩, show j - o = (j - (o + 1)) + 1 by omega, List.getElem?_cons_succ]
    · rw [if_neg h1]
      by_cases h2 : j = o
      · subst h2
        rw [if_pos ⟨Nat.le_refl _, by simp⟩, List.getElem?_set_self h, Nat.sub_self]; rfl
      · rw [if_neg (by simp; omega), List.getElem?_set_ne (fun e => h2 e.symm)]
theorem own_sets {b s g n cap : Nat} {e : TypeId} : ∀ (vs : List Value) (o : Nat) {xs : List Value} {X : World}, X.ownsRow b e s (.slice (some ⟨g, 0, none⟩) n cap) n xs →
    (X.setCells g o vs).ownsRow b e s (.slice (some ⟨g, 0, none⟩) n cap) n (sets xs o vs) ∧ X.grownBy (X.setCells g o vs) (some g)
  | [], o, xs, X, h => ⟨h, ⟨rfl, rfl, rfl, Nat.le_refl _, fun _ _ _ => rfl⟩⟩
  | v :: vs, o, xs, X, h => by
    obtain ⟨h1, g1⟩ := h.stored o v
    obtain ⟨h2, g2⟩ := own_sets vs (o + 1) h1
    exact ⟨h2, ⟨g2.os.trans g1.os, g2.tape.trans g1.tape, g2.output.trans g1.output, Nat.le_trans g1.size g2.size, fun k hk hne => (g2.block k (Nat.lt_of_lt_of_le hk g1.size) hne).trans (g1.block k hk hne)⟩⟩
/-- The first m elements. -/
theorem own_cut {X : World} {b g n cap m : Nat} {e : TypeId} {xs : List Value} (h : X.ownsRow b e 1 (.slice (some ⟨g, 0, none⟩) n cap) n xs) (hm : m ≤ n) : X.ownsRow b e 1 (.slice (some ⟨g, 0, none⟩) m cap) m (xs.take m) := by
  have hl := h.1
  refine ⟨by rw [List.length_take]; omega, ?_⟩
  rcases h.2 with ⟨e1, _⟩ | ⟨g', cap', cur, e1, hb, hh, hn, hc, hs, ht⟩
  · cases e1
  · cases e1
    refine .inr ⟨g, cap, cur, rfl, hb, hh, by omega, hc, hs, ?_⟩
    rw [← ht, List.take_take, Nat.min_eq_left (by omega), Nat.mul_one]
/-- What is left when an element was left out and the last place cleared. -/
theorem sets_erase {xs : List Value} {k n : Nat} (z : Value) (hn : xs.length = n) (hk : k < n) : (sets (sets xs k (xs.drop (k + 1))) (n - 1) [z]).take (n - 1) = xs.eraseIdx k := by
  apply List.ext_getElem?
  intro j
  rw [List.getElem?_take, List.getElem?_eraseIdx]
  by_cases hj : j < n - 1
  · rw [if_pos hj, sets_at _ _ _ _ (by rw [sets_len]; omega), if_neg (by omega), sets_at _ _ _ _ (by omega), List.length_drop]
    by_cases hjk : j < k
    · rw [if_neg (by omega), if_pos hjk]
    · rw [if_pos (by omega), if_neg hjk, List.getElem?_drop]
      congr 1; omega
  · rw [if_neg hj]
    split
    · rw [List.getElem?_eq_none (by omega)]
    · rw [List.getElem?_eq_none (by omega)]

/-- An owned row of which an element is left out. -/
def Del (b : Nat) (e : TypeId) (g n cap k : Nat) (xs : List Value) (W : World) (en : Ending) (w' : World) : Prop :=
  en = .returned (.slice (some ⟨g, 0, none⟩) (n - 1) cap) ∧ w'.ownsRow b e 1 (.slice (some ⟨g, 0, none⟩) (n - 1) cap) (n - 1) (xs.eraseIdx k) ∧ W.grownBy w' (some g)

end Go.Proofs.Ytcoikcnijaniaaa.detI

/- Rows exchanged in memory; the contract of the program's adding of a row to another one. -/
namespace Go.Proofs.Ytcoikcnijaniaaa.detI
open Go.ChangeShapes Go.WideShapes Go.ChangeAt Go.RowKit
open draw gridC mazeC intsP reachD intA intK listK rowsP matP eucP
set_option linter.unusedVariables false

theorem swap_at {α : Type} {xs : List α} {i k : Nat} {a c : α} (hi : xs[i]? = some a) (hk : xs[k]? = some c) (r : Nat) : ((xs.set i c).set k a)[r]? = xs[if r = k then i else if r = i then k else r]? := by
  have h1 := (List.getElem?_eq_some_iff.1 hi).1
  have h2 := (List.getElem?_eq_some_iff.1 hk).1
  by_cases e : r = k
  · rw [if_pos e, e, List.getElem?_set_self (by simpa using h2), hi]
  · rw [if_neg e, List.getElem?_set_ne (fun h => e h.symm)]
    by_cases e2 : r = i
    · rw [if_pos e2, e2, List.getElem?_set_self h1, hk]
    · rw [if_neg e2, List.getElem?_set_ne (fun h => e2 h.symm)]
/-- Two rows change places. -/
theorem MxOw.swap {X : World} {b t g n cg i k : Nat} {ls : List (List Int)} {li lk : List Int} {ci ck : Value} (h : MxOw X b t (.slice (some ⟨g, 0, none⟩) n cg) ls) (hi : ls[i]? = some li) (hk : ls[k]? = some lk) (ei : X.cell? ⟨g, i, none⟩ = some ci) (ek : X.cell? ⟨g, k, none⟩ = some ck) :
    MxOw ((X.setCell ⟨g, i, none⟩ ck).setCell ⟨g, k, none⟩ ci) b t (.slice (some ⟨g, 0, none⟩) n cg) ((ls.set i lk).set k li) ∧ ∀ Y, KeptO b t Y X → KeptO b t Y ((X.setCell ⟨g, i, none⟩ ck).setCell ⟨g, k, none⟩ ci) := by
  have hn := mx_num h
  subst hn
  have hil := (List.getElem?_eq_some_iff.1 hi).1
  have hkl := (List.getElem?_eq_some_iff.1 hk).1
  obtain ⟨cs, h1, h2, h3, h4⟩ := h
  have di : cs[i]? = some ci := by rw [← ei, h1.cellAt i (by omega)]
  have dk : cs[k]? = some ck := by rw [← ek, h1.cellAt k (by omega)]
  obtain ⟨s1, s2⟩ := h1.stored i ck
  obtain ⟨u1, u2⟩ := s1.stored k ci
  have hgb : b ≤ g ∧ g < t := ⟨(h1.lt g rfl).1, h2 g rfl⟩
  refine ⟨⟨(cs.set i ck).set k ci, by simpa using u1, h2, fun r m hm => ?_, fun r j c d q hc hd hrj hq => ?_⟩, fun Y hY => (hY.grown s2 (fun q e => by cases e; exact hgb)).grown u2 (fun q e => by cases e; exact hgb)⟩
  · rw [swap_at hi hk] at hm
    obtain ⟨c, e1, e2, e3⟩ := h3 _ m hm
    have hne := splP.own_ne e2 h1 (by decide)
    exact ⟨c, by rw [swap_at di dk]; exact e1, (e2.kept s2 hne).kept u2 hne, e3⟩
  · rw [swap_at di dk] at hc hd
    refine h4 _ _ c d q hc hd ?_ hq
    repeat (first | omega | split)
theorem KeptO.dr {b t : Nat} {w w' : World} (h : KeptO b t w w') : KeptO b t w w'.drew := h

theorem set_same {α : Type} {xs : List α} {i : Nat} {a : α} (h : xs[i]? = some a) : xs.set i a = xs := by
  apply List.ext_getElem?
  intro j
  by_cases e : j = i
  · rw [e, List.getElem?_set_self (List.getElem?_eq_some_iff.1 h).1, h]
  · rw [List.getElem?_set_ne (fun h => e h.symm)]
/-- While a row is added to another one. -/
def AS (W : World) (b t g cg n R : Nat) (ms : List (List Int)) (i : Nat) (l : List Int) (X : World) : Prop :=
  MxOw X b t (.slice (some ⟨g, 0, none⟩) n cg) (ms.set i l) ∧ KeptO b t W X ∧ ∀ j, X.cell? ⟨g, j, none⟩ = W.cell? ⟨g, j, none⟩
theorem AS.dr {W X : World} {b t g cg n R : Nat} {ms : List (List Int)} {i : Nat} {l : List Int} (h : AS W b t g cg n R ms i l X) : AS W b t g cg n R ms i l X.drew :=
  ⟨h.1.call ⟨rfl, rfl, rfl, Nat.le_refl _, fun _ _ => rfl⟩, h.2.1, h.2.2⟩

end Go.Proofs.Ytcoikcnijaniaaa.detI

/- The contract of the program's leaving out of a row and a column. -/
namespace Go.Proofs.Ytcoikcnijaniaaa.detI
open Go.ChangeShapes Go.WideShapes Go.ChangeAt Go.RowKit
open draw gridC mazeC intsP reachD intA intK listK rowsP rowsL matP
set_option linter.unusedVariables false

theorem icells_erase (l : List Int) (k : Nat) : (icells l).eraseIdx k = icells (l.eraseIdx k) := by
  unfold icells
  apply List.ext_getElem?
  intro j
  rw [List.getElem?_eraseIdx, List.getElem?_map, List.getElem?_map, List.getElem?_map, List.getElem?_eraseIdx]
  split <;> rfl
/-- A row is left out. -/
theorem mx_del {X : World} {b t g n cg k : Nat} {ls : List (List Int)} (h : MxOw X b t (.slice (some ⟨g, 0, none⟩) n cg) ls) (hk : k < n) :
    ∃ xs : List Value, X.ownsRow b 32 1 (.slice (some ⟨g, 0, none⟩) n cg) n xs ∧ (∀ u ∈ xs, u.oneCell' = true) ∧ n ≤ cg ∧ cg ≤ maxLen ∧
      ∀ X', X'.ownsRow b 32 1 (.slice (some ⟨g, 0, none⟩) (n - 1) cg) (n - 1) (xs.eraseIdx k) → X.grownBy X' (some g) → MxOw X' b t (.slice (some ⟨g, 0, none⟩) (n - 1) cg) (ls.eraseIdx k) ∧ KeptO b t X X' := by
  have hn := mx_num h
  subst hn
  obtain ⟨cs, h1, h2, h3, h4⟩ := h
  have hcl : cs.length = ls.length := by have := h1.1; omega
  refine ⟨cs, h1, fun u hu => ?_, (own_cap h1).1, (own_cap h1).2, fun X' ho hg => ⟨⟨cs.eraseIdx k, ?_, h2, fun i l hl => ?_, fun i j c d q hc hd hij hq => ?_⟩, (kept_refl b t X).grown hg (fun q e => by cases e; exact ⟨(h1.lt g rfl).1, h2 g rfl⟩)⟩⟩
  · obtain ⟨j, hj, rfl⟩ := List.mem_iff_getElem.1 hu
    obtain ⟨c, e1, e2, -⟩ := h3 j _ (List.getElem?_eq_getElem (by omega))
    obtain ⟨Ai, ci, rfl⟩ := intsP.own_form e2
    rw [List.getElem?_eq_getElem hj] at e1
    rw [Option.some.inj e1]; rfl
  · rw [List.length_eraseIdx, if_pos hk]; exact ho
  · rw [List.getElem?_eraseIdx] at hl
    have key : ∀ j, ls[j]? = some l → ∃ c, cs[j]? = some c ∧ X'.ownsRow b 3 1 c l.length (icells l) ∧ ∀ q, c.ownBlock = some q → q < t := fun j hj => by
      obtain ⟨c, e1, e2, e3⟩ := h3 j l hj
      exact ⟨c, e1, e2.kept hg (splP.own_ne e2 h1 (by decide)), e3⟩
    rw [List.getElem?_eraseIdx]
    split at hl
    · rename_i hlt; rw [if_pos hlt]; exact key _ hl
    · rename_i hlt; rw [if_neg hlt]; exact key _ hl
  · rw [List.getElem?_eraseIdx] at hc hd
    split at hc <;> split at hd <;> exact h4 _ _ c d q hc hd (by omega) hq
/-- A number of a row is left out. -/
theorem mx_row_del {X : World} {b t g m cg i n k : Nat} {ls : List (List Int)} {l : List Int} (h : MxOw X b t (.slice (some ⟨g, 0, none⟩) m cg) ls) (hl : ls[i]? = some l) (hn : l.length = n) (hk : k < n) :
    ∃ q cq, X.cell? ⟨g, i, none⟩ = some (.slice (some ⟨q, 0, none⟩) n cq) ∧ X.ownsRow b 3 1 (.slice (some ⟨q, 0, none⟩) n cq) n (icells l) ∧ n ≤ cq ∧ cq ≤ maxLen ∧
      ∀ X', X'.ownsRow b 3 1 (.slice (some ⟨q, 0, none⟩) (n - 1) cq) (n - 1) ((icells l).eraseIdx k) → X.grownBy X' (some q) →
        (∃ old, X'.cell? ⟨g, i, none⟩ = some old) ∧ X'.frozen? ⟨g, i, none⟩ = false ∧ MxOw (X'.setCell ⟨g, i, none⟩ (.slice (some ⟨q, 0, none⟩) (n - 1) cq)) b t (.slice (some ⟨g, 0, none⟩) m cg) (ls.set i (l.eraseIdx k)) ∧
          ∀ Y, KeptO b t Y X → KeptO b t Y (X'.setCell ⟨g, i, none⟩ (.slice (some ⟨q, 0, none⟩) (n - 1) cq)) := by
  have hm := mx_num h
  subst hm
  have hil := (List.getElem?_eq_some_iff.1 hl).1
  obtain ⟨cs, h1, h2, h3, h4⟩ := h
  have hcl : cs.length = ls.length := by have := h1.1; omega
  obtain ⟨c, e1, e2, e3⟩ := h3 i l hl
  rw [hn] at e2
  obtain ⟨q, cq, rfl, hq1, hq2⟩ := own_some e2 (by omega)
  have hqt : q < t := e3 q rfl
  have hg1 : b ≤ g ∧ g < t := ⟨(h1.lt g rfl).1, h2 g rfl⟩
  refine ⟨q, cq, by rw [h1.cellAt i (by omega), e1], e2, (own_cap e2).1, (own_cap e2).2, fun X' ho hg => ?_⟩
  have k1 := h1.kept hg (splP.own_ne h1 e2 (by decide))
  obtain ⟨s1, s2⟩ := k1.stored i (.slice (some ⟨q, 0, none⟩) (n - 1) cq)
  refine ⟨⟨_, (k1.cellAt i (by omega)).trans e1⟩, k1.frozenAt i, ⟨cs.set i (.slice (some ⟨q, 0, none⟩) (n - 1) cq), by rw [List.length_set]; exact s1, h2, fun j m hj => ?_, fun j r c d p hc hd hjr hp => ?_⟩, fun Y hY => (hY.grown hg (fun p e => by cases e; exact ⟨hq1, hqt⟩)).grown s2 (fun p e => by cases e; exact hg1)⟩
  · by_cases hji : j = i
    · subst hji
      rw [List.getElem?_set_self hil] at hj
      obtain rfl : l.eraseIdx k = m := Option.some.inj hj
      rw [icells_erase] at ho
      have hle : (l.eraseIdx k).length = n - 1 := by rw [List.length_eraseIdx, if_pos (by omega)]; omega
      refine ⟨_, List.getElem?_set_self (by omega), ?_, fun p e => by cases e; exact hqt⟩
      rw [hle]
      exact ho.kept s2 (splP.own_ne ho k1 (by decide))
    · rw [List.getElem?_set_ne (fun e => hji e.symm)] at hj
      obtain ⟨d, d1, d2, d3⟩ := h3 j m hj
      refine ⟨d, by rw [List.getElem?_set_ne (fun e => hji e.symm)]; exact d1, ?_, d3⟩
      have d2' := d2.kept hg (by
        cases hd : d.ownBlock with
        | none => exact .inl rfl
        | some p =>
          refine .inr fun e => ?_
          exact h4 j i d _ p d1 e1 hji hd (by show some q = some p; exact e.symm))
      exact d2'.kept s2 (splP.own_ne d2' k1 (by decide))
  · have hold : ∀ {j : Nat} {c : Value}, (cs.set i (.slice (some ⟨q, 0, none⟩) (n - 1) cq))[j]? = some c → ∃ c' : Value, cs[j]? = some c' ∧ c'.ownBlock = c.ownBlock := fun {j c} hc => by
      by_cases hji : j = i
      · subst hji
        rw [List.getElem?_set_self (by omega)] at hc
        obtain rfl := Option.some.inj hc
        exact ⟨_, e1, rfl⟩
      · rw [List.getElem?_set_ne (fun e => hji e.symm)] at hc
        exact ⟨c, hc, rfl⟩
    obtain ⟨c', x1, x2⟩ := hold hc
    obtain ⟨d', y1, y2⟩ := hold hd
    rw [← y2]
    exact h4 j r c' d' p x1 y1 hjr (by rw [x2]; exact hp)

/-- The first i rows have lost the number at k. -/
def mid (ms : List (List Int)) (k i : Nat) : List (List Int) := (ms.take i).map (fun l => l.eraseIdx k) ++ ms.drop i
theorem mid_get {ms : List (List Int)} {k i : Nat} (hi : i ≤ ms.length) (j : Nat) : (mid ms k i)[j]? = if j < i then (ms[j]?).map (fun l => l.eraseIdx k) else ms[j]? := by
  have hl : ((ms.take i).map (fun l : List Int => l.eraseIdx k)).length = i := by rw [List.length_map, List.length_take]; omega
  unfold mid
  split
  · rename_i h
    rw [List.getElem?_append_left (by omega), List.getElem?_map, List.getElem?_take_of_lt h]
  · rename_i h
    rw [List.getElem?_append_right (by omega), hl, List.getElem?_drop, show i + (j - i) = j by omega]
theorem mid_zero (ms : List (List Int)) (k : Nat) : mid ms k 0 = ms := by simp [mid]
theorem mid_all (ms : List (List Int)) (k : Nat) : mid ms k ms.length = ms.map (fun l => l.eraseIdx k) := by simp [mid]
theorem mid_len {ms : List (List Int)} {k i : Nat} (hi : i ≤ ms.length) : (mid ms k i).length = ms.length := by
  unfold mid; rw [List.length_append, List.length_map, List.length_take, List.length_drop]; omega
theorem mid_next {ms : List (List Int)} {k i : Nat} {l : List Int} (hl : ms[i]? = some l) : mid ms k (i + 1) = (mid ms k i).set i (l.eraseIdx k) := by
  have hi := (List.getElem?_eq_some_iff.1 hl).1
  apply List.ext_getElem?
  intro j
  rw [mid_get (by omega)]
  by_cases hj : j = i
  · subst hj
    rw [if_pos (by omega), hl, List.getElem?_set_self (by rw [mid_len (by omega)]; exact hi)]; rfl
  · rw [List.getElem?_set_ne (fun e => hj e.symm), mid_get (by omega)]
    by_cases h : j < i
    · rw [if_pos (by omega), if_pos h]
    · rw [if_neg (by omega), if_neg h]

/-- The rows at work, beside what was there. -/
def WS (W : World) (b t : Nat) (v : Value) (ms : List (List Int)) (X : World) : Prop := MxOw X b t v ms ∧ Below W.heap.size W X ∧ W.heap.size ≤ b ∧ t ≤ X.heap.size
theorem WS.kept {W X X' : World} {b t : Nat} {v v' : Value} {ms ms' : List (List Int)} (h : WS W b t v ms X) (hm : MxOw X' b t v' ms') (hk : KeptO b t X X') : WS W b t v' ms' X' :=
  ⟨hm, hk.below h.2.1 h.2.2.1 h.2.1.size, h.2.2.1, Nat.le_trans h.2.2.2 hk.2.2.2.1⟩

end Go.Proofs.Ytcoikcnijaniaaa.detI

/- The contract of the program's determinant. -/
namespace Go.Proofs.Ytcoikcnijaniaaa.detI
open Go.ChangeShapes Go.WideShapes Go.ChangeAt Go.RowKit
open draw gridC mazeC intsP reachD intA intK listK rowsP detP matP eucP
set_option linter.unusedVariables false

/-- The size of the entry that is to become 0. -/
def entN (g i j : Nat) (w : World) : Nat :=
  match w.cell? ⟨g, i, none⟩ with
  | some (.slice (some a) _ _) => (match w.cell? ⟨a.block, j, none⟩ with | some (.int _ z) => z.natAbs | _ => 0)
  | _ => 0
theorem ent_is {g i j q n c : Nat} {w : World} {k : IntKind} {z : Int} (h1 : w.cell? ⟨g, i, none⟩ = some (.slice (some ⟨q, 0, none⟩) n c)) (h2 : w.cell? ⟨q, j, none⟩ = some (.int k z)) : entN g i j w = z.natAbs := by
  unfold entN; rw [h1]; show (match w.cell? ⟨q, j, none⟩ with | some (.int _ z) => z.natAbs | _ => 0) = _; rw [h2]

/-- The rows between the rounds, and the variable that holds them. -/
def ES (W : World) (n R : Nat) (A : Option Addr) (c : Nat) (ms : List (List Int)) (X : World) : Prop :=
  MxOw X W.heap.size R (.slice A n c) ms ∧ Below W.heap.size W X ∧ X.cell? ⟨R, 0, none⟩ = some (.slice A n c) ∧ R < X.heap.size ∧ W.heap.size ≤ R
theorem ES.dr {W X : World} {n R c : Nat} {A : Option Addr} {ms : List (List Int)} (h : ES W n R A c ms X) : ES W n R A c ms X.drew :=
  ⟨h.1.call ⟨rfl, rfl, rfl, Nat.le_refl _, fun _ _ => rfl⟩, below_call h.2.1 ⟨rfl, rfl, rfl, Nat.le_refl _, fun _ _ => rfl⟩, h.2.2.1, h.2.2.2.1, h.2.2.2.2⟩
theorem ES.kept {W X X' : World} {n R c : Nat} {A : Option Addr} {ms ms' : List (List Int)} (h : ES W n R A c ms X) (hm : MxOw X' W.heap.size R (.slice A n c) ms') (hk : KeptO W.heap.size R X X') : ES W n R A c ms' X' := by
  obtain ⟨-, h2, h3, h4, h5⟩ := h
  refine ⟨hm, hk.below h2 (Nat.le_refl _) h2.size, ?_, Nat.lt_of_lt_of_le h4 hk.2.2.2.1, h5⟩
  rw [World.cell?_of_block (a := ⟨R, 0, none⟩) (w := X) (hk.2.2.2.2 R h4 (.inr (Nat.le_refl _)))]; exact h3
/-- Where rows and entries lie. -/
theorem ES.at' {W X : World} {n R c : Nat} {A : Option Addr} {ms : List (List Int)} (h : ES W n R A c ms X) (hr : ∀ l ∈ ms, l.length = n) {i : Nat} (hi : i < n) : ∃ g, A = some ⟨g, 0, none⟩ ∧ ∃ li q cq, ms[i]? = some li ∧ li.length = n ∧ X.cell? ⟨g, i, none⟩ = some (.slice (some ⟨q, 0, none⟩) n cq) ∧ ∀ j, j < n → X.cell? ⟨q, j, none⟩ = some (.int .i64 (mfn ms i j)) ∧ mfn ms i j ∈ li := by
  have hn := mx_num h.1
  have hl := List.getElem?_eq_getElem (show i < ms.length by omega)
  have hll := hr _ (List.mem_of_getElem? hl)
  obtain ⟨-, g, ea, -, -, -, A1, c1, e1, o1, -⟩ := h.1.row hl
  rw [hll] at e1 o1
  obtain ⟨q, c1', r1, -, -⟩ := own_some o1 (by omega)
  cases r1
  refine ⟨g, ea, _, q, c1, hl, hll, e1, fun j hj => ?_⟩
  have hz := List.getElem?_eq_getElem (show j < (ms[i]'(by omega)).length by omega)
  have e : mfn ms i j = (ms[i]'(by omega))[j]'(by omega) := by
    unfold mfn
    simp [List.getD_eq_getElem?_getD, hl, hz]
  rw [e]
  exact ⟨own_cellI o1 hz, List.getElem_mem _⟩

/-- One step of Euclid's way: a row was added, now the two rows change places. -/
theorem eu_round {W wr w3 : World} {n R c g τ ρ q1 q2 c2 c3 : Nat} {ms : List (List Int)} {lτ lρ : List Int} {s D zt : Int} (he : Eu ms n τ ρ s D) (hs : ES W n R (some ⟨g, 0, none⟩) c ms wr) (hρ : τ < ρ) (hρn : ρ < n) (m1 : ms[τ]? = some lτ) (m2 : ms[ρ]? = some lρ)
    (h1 : wr.cell? ⟨g, τ, none⟩ = some (.slice (some ⟨q1, 0, none⟩) n c3)) (h2 : wr.cell? ⟨g, ρ, none⟩ = some (.slice (some ⟨q2, 0, none⟩) n c2)) (hz : mfn ms ρ τ ≠ 0) (hzt : zt = IntKind.i64.wrap (-IntKind.i64.wrap ((mfn ms τ τ).tdiv (mfn ms ρ τ))))
    (ho : MxOw w3 W.heap.size R (.slice (some ⟨g, 0, none⟩) n c) (ms.set τ (adL lτ lρ zt))) (hk : KeptO W.heap.size R wr.drew w3) (hc : ∀ j, w3.cell? ⟨g, j, none⟩ = wr.drew.cell? ⟨g, j, none⟩) :
    (w3.cell? ⟨R, 0, none⟩ = some (.slice (some ⟨g, 0, none⟩) n c) ∧ w3.cell? ⟨g, τ, none⟩ = some (.slice (some ⟨q1, 0, none⟩) n c3) ∧ w3.cell? ⟨g, ρ, none⟩ = some (.slice (some ⟨q2, 0, none⟩) n c2) ∧ w3.cell? ⟨q2, τ, none⟩ = some (.int .i64 (mfn ms ρ τ))) ∧
    (w3.frozen? ⟨g, τ, none⟩ = false ∧ w3.frozen? ⟨g, ρ, none⟩ = false ∧ g ≠ R) ∧
    Eu ((ms.set τ lρ).set ρ (adL lτ lρ zt)) n τ ρ (wrap64 (-s)) D ∧
    ∀ w4, w4 = ((w3.setCell ⟨g, τ, none⟩ (.slice (some ⟨q2, 0, none⟩) n c2)).setCell ⟨g, ρ, none⟩ (.slice (some ⟨q1, 0, none⟩) n c3)).drew →
      ES W n R (some ⟨g, 0, none⟩) c ((ms.set τ lρ).set ρ (adL lτ lρ zt)) w4 ∧ entN g ρ τ w4 < (mfn ms ρ τ).natAbs := by
  have hn := he.len
  have hs3 := hs.dr.kept ho hk
  have l1 := he.row lτ (List.mem_of_getElem? m1)
  have l2 := he.row lρ (List.mem_of_getElem? m2)
  have hlen : lτ.length = lρ.length := by omega
  have g1 : (ms.set τ (adL lτ lρ zt))[τ]? = some (adL lτ lρ zt) := List.getElem?_set_self (by omega)
  have g2 : (ms.set τ (adL lτ lρ zt))[ρ]? = some lρ := by rw [List.getElem?_set_ne (by omega)]; exact m2
  have k1 : w3.cell? ⟨g, τ, none⟩ = some (.slice (some ⟨q1, 0, none⟩) n c3) := (hc τ).trans h1
  have k2 : w3.cell? ⟨g, ρ, none⟩ = some (.slice (some ⟨q2, 0, none⟩) n c2) := (hc ρ).trans h2
  have hfz : ∀ j, w3.frozen? ⟨g, j, none⟩ = false := fun j => by
    have hnm := mx_num ho
    obtain ⟨cs, o1, -⟩ := ho
    rw [← hnm] at o1
    exact o1.frozenAt j
  have hgR : g < R := by
    obtain ⟨cs, -, o2, -⟩ := ho
    exact o2 g rfl
  have he1 := he.step (t := zt) hρ hρn m1 m2
  have hm : ∀ i j, mfn ms i j = (ms.getD i []).getD j 0 := fun i j => rfl
  have d1 : mfn ms τ τ = lτ.getD τ 0 := by simp [mfn, List.getD_eq_getElem?_getD, m1]
  have d2 : mfn ms ρ τ = lρ.getD τ 0 := by simp [mfn, List.getD_eq_getElem?_getD, m2]
  refine ⟨⟨hs3.2.2.1, k1, k2, ?_⟩, ⟨hfz τ, hfz ρ, by omega⟩, he1, ?_⟩
  · obtain ⟨-, g', eg, -, -, -, A1, c1, e1, o1, -⟩ := ho.row g2
    cases eg
    rw [l2, k2] at e1
    injection e1 with e1
    injection e1 with e1 e2 e3
    subst e1 e3
    rw [l2] at o1
    refine own_cellI o1 ?_
    rw [d2, List.getD_eq_getElem?_getD, List.getElem?_eq_getElem (by omega)]; rfl
  · rintro w4 rfl
    obtain ⟨s1, s2⟩ := MxOw.swap hs3.1 g1 g2 (ci := .slice (some ⟨q1, 0, none⟩) n c3) (ck := .slice (some ⟨q2, 0, none⟩) n c2) k1 k2
    rw [List.set_set] at s1
    have hs4 := (hs3.kept s1 (s2 _ (kept_refl _ _ _))).dr
    refine ⟨hs4, ?_⟩
    obtain ⟨g', eg, lr, q, cq, r1, r2, r3, r4⟩ := hs4.at' he1.row hρn
    cases eg
    rw [ent_is r3 (r4 τ (by omega)).1, mfn_set (by rw [List.length_set]; omega), if_pos rfl, ad_get hlen (by omega), ← d1, ← d2]
    have hw : zt = wrap64 (- wrap64 ((mfn ms τ τ).tdiv (mfn ms ρ τ))) := by
      rw [hzt, IntKind.wrap_i64, IntKind.wrap_i64]; unfold wrap64; rfl
    have b1 := he.rng lτ (List.mem_of_getElem? m1) (mfn ms τ τ) (by
      rw [d1, List.getD_eq_getElem?_getD, List.getElem?_eq_getElem (by omega)]; exact List.getElem_mem _)
    have b2 := he.rng lρ (List.mem_of_getElem? m2) (mfn ms ρ τ) (by
      rw [d2, List.getD_eq_getElem?_getD, List.getElem?_eq_getElem (by omega)]; exact List.getElem_mem _)
    obtain ⟨u1, u2⟩ := eu_less b1 b2 hz
    rw [hw, u1]; exact u2

end Go.Proofs.Ytcoikcnijaniaaa.detI
