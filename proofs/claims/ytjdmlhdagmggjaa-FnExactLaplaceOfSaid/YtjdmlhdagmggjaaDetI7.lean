/- The contract of the program's LaplaceOf. -/
import Derived.Test.YtjdmlhdagmggjaaMatR
import Derived.Test.YtjdmlhdagmggjaaPrgM
namespace Go.Proofs.Ytjdmlhdagmggjaa.detI
open Go.ChangeShapes Go.WideShapes Go.ChangeAt Go.RowKit
open draw gridP gridC gridE bitP mazeP mazeC mazeM mazeR intsP reachD intA intK listK rowsP matP matR
set_option linter.unusedVariables false

/-- The rows behind i rounds. -/
def rsL (x y z : Int) (n i : Nat) : List (List Int) := (List.range i).map (lpr x y z n) ++ List.replicate (n - i) []
theorem rs_len {x y z : Int} {n i : Nat} (hi : i ≤ n) : (rsL x y z n i).length = n := by simp [rsL]; omega
theorem rs_next {x y z : Int} {n i : Nat} (hi : i < n) : rsL x y z n (i + 1) = (rsL x y z n i).set i (lpr x y z n i) := by
  unfold rsL
  have e1 : ((List.range i).map (lpr x y z n)).length = i := by simp
  have e2 : List.replicate (n - i) ([] : List Int) = [] :: List.replicate (n - (i + 1)) [] := by rw [show n - i = (n - (i + 1)) + 1 by omega]; rfl
  rw [List.set_append_right _ _ (by omega), e1, Nat.sub_self, e2, List.set_cons_zero, List.range_succ, List.map_append]
  simp
theorem rs_all (x y z : Int) (n : Nat) : rsL x y z n n = (List.range n).map (lpr x y z n) := by simp [rsL]

/-- The rows, the maze's block. -/
def OS (W : World) (x y z : Int) (n g : Nat) (ls : List (List Int)) (X : World) : Prop := ML W (W.heap.size + 1) ls (.slice (some ⟨g, 0, none⟩) n n) X ∧ MBox W.heap.size x y z X
theorem OS.call {W X X' : World} {x y z : Int} {n g : Nat} {ls : List (List Int)} (h : OS W x y z n g ls X) (hb : Below X.heap.size X X') : OS W x y z n g ls X' := ⟨h.1.call hb, h.2.call hb⟩
/-- The same while row i is written, from the ways ds. -/
def IS (W : World) (x y z : Int) (n g q i : Nat) (ls : List (List Int)) (ds : List Int) (v : Value) (X : World) : Prop :=
  OS W x y z n g ls X ∧ X.ownsRow (W.heap.size + 1) 3 1 v ds.length (icells ds) ∧ (∀ p, v.ownBlock = some p → p < q) ∧ X.cell? ⟨g, i, none⟩ = some (.slice (some ⟨q, 0, none⟩) n n) ∧ W.heap.size < g ∧ g < q ∧ q < X.heap.size
theorem IS.call {W X X' : World} {x y z : Int} {n g q i : Nat} {ls : List (List Int)} {ds : List Int} {v : Value} (h : IS W x y z n g q i ls ds v X) (hb : Below X.heap.size X X') : IS W x y z n g q i ls ds v X' := by
  obtain ⟨h1, h2, h3, h4, h5, h6, h7⟩ := h
  exact ⟨h1.call hb, own_call h2 hb, h3, (hb.cell (p := ⟨g, i, none⟩) (by show g < _; omega)).trans h4, h5, h6, Nat.lt_of_lt_of_le h7 hb.size⟩
theorem IS.dr {W X : World} {x y z : Int} {n g q i : Nat} {ls : List (List Int)} {ds : List Int} {v : Value} (h : IS W x y z n g q i ls ds v X) : IS W x y z n g q i ls ds v X.drew := h.call ⟨rfl, rfl, rfl, Nat.le_refl _, fun _ _ => rfl⟩
theorem IS.put {W X : World} {x y z : Int} {n g q i s : Nat} {ls : List (List Int)} {l ds : List Int} {v : Value} {u : Int} (h : IS W x y z n g q i ls ds v X) (hl : ls[i]? = some l) (hn : l.length = n) :
    IS W x y z n g q i (ls.set i (l.set s u)) ds v (X.setCell ⟨q, s, none⟩ (.int .i64 u)) := by
  obtain ⟨⟨h1, h0⟩, h2, h3, h4, h5, h6, h7⟩ := h
  have hnl := mx_num h1.2.2.2
  have hil := (List.getElem?_eq_some_iff.1 hl).1
  have hra := row_at h1.2.2.2 hil h4
  have hp := h1.2.2.2.put hl (j := s) (g := q) (ci := n) (by rw [hn]; simpa [hnl] using hra) u
  have hz : (X.setCell ⟨q, s, none⟩ (.int .i64 u)).heap.size = X.heap.size := by simp [World.setCell]
  have hbl : Below (g + 1) X (X.setCell ⟨q, s, none⟩ (.int .i64 u)) := (Below.refl _ _).setCell (by show g + 1 ≤ q; omega) _
  refine ⟨⟨⟨h1.1.setCell (by show W.heap.size ≤ q; omega) _, h1.2.1, by rw [hz]; exact h1.2.2.1, by rw [hz]; exact hp.1⟩, mbox_keep h0 (Nat.lt_trans h5 (Nat.lt_succ_self g)) hbl⟩, h2.kept hp.2.1 ?_, h3, (hbl.cell (p := ⟨g, i, none⟩) (Nat.lt_succ_self g)).trans h4, h5, h6, by rw [hz]; exact h7⟩
  cases hv : v.ownBlock with
  | none => exact .inl rfl
  | some p =>
    refine .inr fun e => ?_
    have := h3 p hv
    have := Option.some.inj e
    omega
theorem IS.box {W X : World} {x y z : Int} {n g q i : Nat} {ls : List (List Int)} {ds : List Int} {v : Value} (h : IS W x y z n g q i ls ds v X) : X.cell? ⟨g, i, none⟩ = some (.slice (some ⟨q, 0, none⟩) n n) ∧ X.cell? ⟨W.heap.size, 0, none⟩ = some (.int .i64 x) ∧ X.cell? ⟨W.heap.size, 1, none⟩ = some (.int .i64 y) ∧ X.cell? ⟨W.heap.size, 2, none⟩ = some (.int .i64 z) := by
  obtain ⟨⟨h1, h0⟩, h2, h3, h4, h5, h6, h7⟩ := h
  obtain ⟨c0, c1, c2⟩ := h0.1
  exact ⟨h4, c0, c1, c2⟩
theorem IS.spot {W X : World} {x y z : Int} {n g q i s : Nat} {ls : List (List Int)} {l ds : List Int} {v : Value} (h : IS W x y z n g q i ls ds v X) (hl : ls[i]? = some l) (hn : l.length = n) (hs : s < n) : (∃ u, X.cell? ⟨q, s, none⟩ = some (.int .i64 u)) ∧ X.frozen? ⟨q, s, none⟩ = false := by
  obtain ⟨⟨h1, h0⟩, h2, h3, h4, h5, h6, h7⟩ := h
  obtain ⟨-, g', e, -, -, -, A, c, e1, o1, -⟩ := h1.2.2.2.row hl
  cases e
  rw [h4] at e1
  injection e1 with e1
  injection e1 with e1 e2 e3
  subst e1 e3
  rw [hn] at o1
  exact ⟨⟨_, own_cellI o1 (List.getElem?_eq_getElem (by omega))⟩, o1.frozenAt s⟩
/-- A row of zeros takes its place, and the number of ways is stored. -/
theorem is_start {W X X2 : World} {x y z : Int} {n g i : Nat} {ls : List (List Int)} {ds : List Int} {v : Value} {u : Int} (h : OS W x y z n g ls X) (hb : Below X.heap.size X X2) (ho : X2.ownsRow X.heap.size 3 1 v ds.length (icells ds)) (hi : i < ls.length) (hn : n ≤ 1048576) (hin : i < n) :
    ((∃ old, X2.cell? ⟨g, i, none⟩ = some old) ∧ X2.frozen? ⟨g, i, none⟩ = false ∧ g < X2.heap.size) ∧ (madeCells #[.int .i64 0] n)[i]? = some (.int .i64 0) ∧
    IS W x y z n g X2.heap.size i (ls.set i ((List.replicate n 0).set i u)) ds v (((X2.alloc (.cells (madeCells #[.int .i64 0] n) 3)).setCell ⟨g, i, none⟩ (.slice (some ⟨X2.heap.size, 0, none⟩) n n)).setCell ⟨X2.heap.size, i, none⟩ (.int .i64 u)) := by
  have h2 := h.call hb
  have hnl := mx_num h2.1.2.2.2
  have hgb : W.heap.size + 1 ≤ g ∧ g < X2.heap.size := by
    obtain ⟨cs, o1, o2, -⟩ := h2.1.2.2.2
    exact ⟨(o1.lt g rfl).1, o2 g rfl⟩
  have hba : Below X2.heap.size X2 (X2.alloc (.cells (madeCells #[.int .i64 0] n) 3)) := below_box X2 _
  have h3 := h2.call hba
  have hr0 := World.ownsRow_lit (base := X2.heap.size) (e := 3) (size := 1) X2 (madeCells (Value.int .i64 0).cells n) n (Nat.le_refl _) (by unfold maxLen; omega) (by rw [size_madeCells]; omega)
  rw [made_zero] at hr0
  have hr : (X2.alloc (.cells (madeCells #[.int .i64 0] n) 3)).ownsRow X2.heap.size 3 1 (.slice (some ⟨X2.heap.size, 0, none⟩) n n) n (icells (List.replicate n 0)) := hr0
  have hg0 : ∃ old, X2.cell? ⟨g, i, none⟩ = some old := by
    obtain ⟨-, g', e, -, -, -, A, c, e1, -⟩ := h2.1.2.2.2.row (List.getElem?_eq_getElem hi)
    cases e
    exact ⟨_, e1⟩
  have hgf : X2.frozen? ⟨g, i, none⟩ = false := by
    obtain ⟨cs, o1, -⟩ := h2.1.2.2.2
    rw [← hnl] at o1
    exact o1.frozenAt i
  have hmc : (madeCells #[.int .i64 0] n)[i]? = some (.int .i64 0) := by
    rw [← Array.getElem?_toList]
    show (madeCells (Value.int .i64 0).cells n).toList[i]? = _
    rw [made_zero, icells_at _ i (by simpa using hin)]; simp
  refine ⟨⟨hg0, hgf, hgb.2⟩, hmc, ?_⟩
  have hz : (X2.alloc (.cells (madeCells #[.int .i64 0] n) 3)).heap.size = X2.heap.size + 1 := by simp
  have hm := (h2.1.2.2.2.call hba).take (t' := X2.heap.size + 1) (i := i) (r := .slice (some ⟨X2.heap.size, 0, none⟩) n n) (l := List.replicate n 0) hi (Nat.le_succ _) (by rw [List.length_replicate]; exact own_base hr (by omega)) (fun p e => by cases e; exact ⟨Nat.le_refl _, Nat.lt_succ_self _⟩)
  have hz2 : ((X2.alloc (.cells (madeCells #[.int .i64 0] n) 3)).setCell ⟨g, i, none⟩ (.slice (some ⟨X2.heap.size, 0, none⟩) n n)).heap.size = X2.heap.size + 1 := by simp [World.setCell]
  have hbs : Below (W.heap.size + 1) (X2.alloc (.cells (madeCells #[.int .i64 0] n) 3)) ((X2.alloc (.cells (madeCells #[.int .i64 0] n) 3)).setCell ⟨g, i, none⟩ (.slice (some ⟨X2.heap.size, 0, none⟩) n n)) := (Below.refl _ _).setCell hgb.1 _
  have hw := own_call (own_call ho hba) (Below.refl _ _)
  have hcell : ((X2.alloc (.cells (madeCells #[.int .i64 0] n) 3)).setCell ⟨g, i, none⟩ (.slice (some ⟨X2.heap.size, 0, none⟩) n n)).cell? ⟨g, i, none⟩ = some (.slice (some ⟨X2.heap.size, 0, none⟩) n n) := by
    obtain ⟨cs, o1, -⟩ := hm
    obtain ⟨cs0, o0, -⟩ := h3.1.2.2.2
    rw [← hnl] at o0
    rw [(o0.stored i (.slice (some ⟨X2.heap.size, 0, none⟩) n n)).1.cellAt i (by omega), List.getElem?_set_self (by have := o0.1; omega)]
  have hst : IS W x y z n g X2.heap.size i (ls.set i (List.replicate n 0)) ds v ((X2.alloc (.cells (madeCells #[.int .i64 0] n) 3)).setCell ⟨g, i, none⟩ (.slice (some ⟨X2.heap.size, 0, none⟩) n n)) := by
    refine ⟨⟨⟨h3.1.1.setCell (by show W.heap.size ≤ g; omega) _, h3.1.2.1, by rw [hz2]; omega, by rw [hz2]; exact hm⟩, mbox_keep h3.2 (Nat.lt_succ_self _) hbs⟩, ?_, fun p e => (ho.lt p e).2, hcell, by omega, hgb.2, by rw [hz2]; exact Nat.lt_succ_self _⟩
    obtain ⟨cs0, o0, -⟩ := h3.1.2.2.2
    rw [← hnl] at o0
    have ho2 := own_call ho hba
    exact own_base (ho2.kept (o0.stored i (.slice (some ⟨X2.heap.size, 0, none⟩) n n)).2 (splP.own_ne ho2 o0 (by decide))) (Nat.le_trans (by have := h.1.2.2.1; omega) (Nat.le_refl _))
  have hfin := hst.put (s := i) (u := u) (l := List.replicate n 0) (List.getElem?_set_self hi) (by simp)
  rw [List.set_set] at hfin
  exact hfin

set_option maxRecDepth 100000 in
set_option maxHeartbeats 4000000 in
theorem laplaceOfI_good (x y z : Int) (W : World) (hv : OkM x y z) :
    Calls Try.prog 21 #[.agg #[.int .i64 x, .int .i64 y, .int .i64 z]] W (Mtx (lpZ x y z) W) := by
  obtain ⟨j0, hj0, hy0, hy1, hy2⟩ := info_parts info_row
  obtain ⟨i0, hi0, hz0, hz1, hz2⟩ := info_parts info_int
  obtain ⟨⟨h1, h2, h3, h4⟩, -, -⟩ := id hv
  have hcc := (mul_bd x y h1 h2 h3 h4).1
  have HC : Hid (∀ X, Calls Try.prog 45 #[.agg #[.int .i64 x, .int .i64 y]] X (Nm (x * y) X)) := fun X => cells_any x y X h1 h2 h3 h4
  have HM : Hid (∀ X, Calls Try.prog 44 #[.agg #[.int .i64 x, .int .i64 y, .int .i64 z]] X (Bl true X)) := Lib.hid fun X => by
    have := mazeI.ok_any x y z X
    rwa [show okB x y z = true from decide_eq_true hv] at this
  have HF := Lib.hid (fun k X => mazeI.waysFrom_any x y z k X)
  have HS := Lib.hid (fun k d X => mazeI.step_any x y z k d X)
  obtain ⟨n, hn⟩ := Int.eq_ofNat_of_zero_le (show 0 ≤ x * y by omega)
  have HLt : Hid (∀ k d, d ∈ wlZ x y z k → 0 ≤ stZ x y z k d ∧ stZ x y z k d < (n : Int)) := Lib.hid fun k d hd => by
    have h0 := (mazeQ.wl_mem 4 d hd).2
    refine ⟨h0, ?_⟩
    have hge := nb_ge x y k d
    unfold stZ at h0 ⊢
    split at h0
    · rename_i hp
      rw [if_pos hp]
      have := (nb_some (by omega : ¬ nbZ x y k d < 0)).2.2.2.2
      omega
    · omega
  have HEnd : Hid (∀ g w', OS W x y z n g (rsL x y z n n) w' → Mtx (lpZ x y z) W (.returned (.slice (some ⟨g, 0, none⟩) n n)) w') := Lib.hid fun g w' h => by
    have e : lpZ x y z = rsL x y z n n := by
      unfold lpZ
      rw [if_pos (show okB x y z = true from decide_eq_true hv), hn, rs_all]; simp
    rw [e]
    exact mtx_mk h.1.2.2.2 h.1.2.1 (Nat.le_refl _) h.1.1
  have HW4 : Hid (∀ k, (wlZ x y z k).length ≤ 4) := Lib.hid fun k => wlN_len x y z k 4
  have HX0 := Lib.hid (fun T => mbox_new x y z W T)
  have HB0 := Lib.hid (fun T => below_box W (.cells #[.int .i64 x, .int .i64 y, .int .i64 z] T))
  rw [hn] at HC hcc
  have hnz : (0 : Int) ≤ (n : Int) := Int.natCast_nonneg _
  have hn16 : n ≤ 16 := by omega
  clear h1 h2 h3 h4 hn hv
  go_enter Try.func21, Try.ntmps21
  go_wp2_with fail
  refine (HM.out _).mono ?_
  rintro e w0 ⟨rfl, hb⟩
  have hx0 := Lib.hid ((HX0.out _).call hb)
  have hb0 := Lib.hid (below_call (HB0.out _) hb)
  have hsz : W.heap.size + 1 ≤ w0.heap.size := by have := hb.size; simp at this; omega
  clear hb HX0 HB0
  obtain ⟨c0, c1, c2⟩ := hx0.out.1
  go_wp2_with fail
  refine (HC.out _).mono ?_
  rintro e w1 ⟨rfl, hb⟩
  have hx1 := Lib.hid (hx0.out.call hb)
  have hb1 := Lib.hid (below_call hb0.out hb)
  have hsz1 : W.heap.size + 1 ≤ w1.heap.size := Nat.le_trans hsz hb.size
  clear hb hx0 hb0 c0 c1 c2 HC
  have hmk := run_make (P := Try.prog) w1 24 29 j0 (.slice none 0 0) Try.underlying24 hj0 hy0 .i64 .i64 (n : Int) (n : Int) (by omega) (by omega) (by rw [hy2]; omega) (by omega)
  rw [hy1] at hmk
  simp only [Int.toNat_natCast, Nat.mul_one] at hmk
  have hs0 : Hid (OS W x y z n w1.heap.size (rsL x y z n 0) (w1.alloc (.cells (madeCells (Value.slice none 0 0).cells n) 29))) := Lib.hid (by
    have hm := mx_made (X := w1) (b := W.heap.size + 1) hsz1 n (by unfold maxLen; omega)
    have e : rsL x y z n 0 = List.replicate n [] := by simp [rsL]
    rw [e]
    exact ⟨⟨hb1.out.alloc hb1.out.size _, Nat.le_succ _, by simp; omega, by simpa using hm⟩, hx1.out.call (below_box _ _)⟩)
  generalize w1.heap.size = g at *
  go_wp2_with fail
  clear hmk hx1 hb1
  go_loopw [17] (fun u17 wr => ∃ i : Nat, i ≤ n ∧ u17 = .int .i64 i ∧ OS W x y z n g (rsL x y z n i) wr) (fun u17 _ => n - (intOf u17).toNat)
  case atStart => exact ⟨0, Nat.zero_le _, rfl, hs0.out⟩
  case round =>
    clear hs0
    obtain ⟨i, hi, rfl, hs1⟩ := hrel
    have hs := Lib.hid hs1
    clear hs1
    have hiz : (0 : Int) ≤ (i : Int) := Int.natCast_nonneg _
    by_cases hin : i < n
    · have hi1 : (i : Int) < (n : Int) := by omega
      have hd : decide ((i : Int) < (n : Int)) = true := decide_eq_true hi1
      obtain ⟨c0, c1, c2⟩ := hs.out.2.1
      have HF1 := Lib.hid (fun X => HF.out (i : Int) X)
      have HS1 := Lib.hid (fun d X => HS.out (i : Int) d X)
      have HL1 := Lib.hid (fun d hd => HLt.out (i : Int) d hd)
      have HW1 := HW4.out (i : Int)
      have HNx := Lib.hid (fun j d hd => @lr_next x y z n i j d hd)
      have HZr := Lib.hid (lr_zero x y z n i)
      have HLn := Lib.hid (fun j => lr_len x y z n i j)
      have HFin : Hid (rsL x y z n (i + 1) = (rsL x y z n i).set i (lrN x y z n i (wlZ x y z i).length)) := Lib.hid (rs_next hin)
      have hlen := rs_len (x := x) (y := y) (z := z) hi
      have hil : i < (rsL x y z n i).length := by omega
      have HSt := Lib.hid (fun X2 v hb ho => @is_start W wr X2 x y z n g i (rsL x y z n i) (wlZ x y z i) v ((wlZ x y z i).length : Int) hs.out hb ho hil (by omega) hin)
      go_wp2_with fail
      refine (HF1.out _).mono ?_
      rintro e w2 ⟨v7, rfl, how, hb2⟩
      obtain ⟨⟨⟨old, k1⟩, k2, k3⟩, k4, k6⟩ := HSt.out w2 v7 hb2 how
      have hgq : g ≠ w2.heap.size := by omega
      have hqg : w2.heap.size ≠ g := by omega
      have hwq : ((w2.alloc (.cells (madeCells #[.int .i64 0] n) 3)).setCell ⟨g, i, none⟩ (.slice (some ⟨w2.heap.size, 0, none⟩) n n)).setCell ⟨w2.heap.size, i, none⟩ (.int .i64 ((wlZ x y z i).length : Int)) =
          (w2.setCell ⟨g, i, none⟩ (.slice (some ⟨w2.heap.size, 0, none⟩) n n)).alloc (.cells ((madeCells #[.int .i64 0] n).setIfInBounds i (.int .i64 ((wlZ x y z i).length : Int))) 3) := by go_simp
      rw [hwq] at k6
      have hst := Lib.hid k6
      clear hwq k6 how hb2 HSt hs c0 c1 c2 HF1
      have hmk := run_make (P := Try.prog) w2 29 3 i0 (.int .i64 0) Try.underlying29 hi0 hz0 .i64 .i64 (n : Int) (n : Int) (by omega) (by omega) (by rw [hz2]; omega) (by omega)
      rw [hz1] at hmk
      simp only [Int.toNat_natCast, Nat.mul_one] at hmk
      have hcl : (Value.int .i64 0).cells = #[.int .i64 0] := rfl
      rw [hcl] at hmk
      generalize wlZ x y z (i : Int) = ds at *
      obtain ⟨A7, c7, rfl⟩ := own_form hst.out.2.1
      obtain ⟨m, hm⟩ : ∃ m, ds.length = m := ⟨_, rfl⟩
      rw [hm] at hst HW1 HZr HFin ⊢
      have Hm := Lib.hid hm
      clear hm
      rw [← HZr.out] at hst
      clear HZr
      go_wp2_with fail
      clear hmk k1 k2 k4
      go_loopw [39] (fun u39 wq => ∃ j : Nat, j ≤ m ∧ u39 = .int .i64 j ∧ IS W x y z n g w2.heap.size i ((rsL x y z n i).set i (lrN x y z n i j)) ds (.slice A7 m c7) wq) (fun u39 _ => m - (intOf u39).toNat)
      case atStart => exact ⟨0, Nat.zero_le _, rfl, hst.out⟩
      case round =>
        clear hst
        obtain ⟨j, hj, rfl, hs0⟩ := hrel
        have hs := Lib.hid hs0
        clear hs0
        have hjz : (0 : Int) ≤ (j : Int) := Int.natCast_nonneg _
        by_cases hjm : j < m
        · have hj1 : (j : Int) < (m : Int) := by omega
          have hdj : decide ((j : Int) < (m : Int)) = true := decide_eq_true hj1
          obtain ⟨d, hd'⟩ : ∃ d, ds[j]? = some d := ⟨ds[j]'(by have := Hm.out; omega), List.getElem?_eq_getElem (by have := Hm.out; omega)⟩
          have HIo : Hid (∀ X l, IS W x y z n g w2.heap.size i l ds (.slice A7 m c7) X → IntsIn X X.heap.size A7 ds) := Lib.hid fun X l h => (ints_own (by have := h.2.1; rw [Hm.out] at this; exact this)).1
          obtain ⟨ad, rfl, hab, ez⟩ := ints_cell (HIo.out _ _ hs.out) hd'
          obtain ⟨s0, s1⟩ := HL1.out d (List.mem_of_getElem? hd')
          have HE1 := Lib.hid (HNx.out j d hd')
          have HS2 := Lib.hid (fun X => HS1.out d X)
          obtain ⟨σ, hσ⟩ := Int.eq_ofNat_of_zero_le s0
          rw [hσ] at HS2 HE1 s1
          have hrow : Hid (((rsL x y z n i).set i (lrN x y z n i j))[i]? = some (lrN x y z n i j)) := Lib.hid (List.getElem?_set_self hil)
          have HSp := Lib.hid (fun X h => IS.spot (W := W) (X := X) (x := x) (y := y) (z := z) (n := n) (g := g) (q := w2.heap.size) (i := i) (ds := ds) (v := .slice (some ad) m c7) (s := σ) h hrow.out (HLn.out j) (by omega))
          have HPt := Lib.hid (fun X h => IS.put (W := W) (X := X) (x := x) (y := y) (z := z) (n := n) (g := g) (q := w2.heap.size) (i := i) (ds := ds) (v := .slice (some ad) m c7) (s := σ) (u := -1) h hrow.out (HLn.out j))
          have HBx := Lib.hid (fun X l h => IS.box (W := W) (X := X) (x := x) (y := y) (z := z) (n := n) (g := g) (q := w2.heap.size) (i := i) (ls := l) (ds := ds) (v := .slice (some ad) m c7) h)
          obtain ⟨b4, b0, b1, b2⟩ := HBx.out _ _ hs.out
          have hσ0 : (0 : Int) ≤ (σ : Int) := Int.natCast_nonneg _
          clear hσ s0 hd' hab
          go_wp2_with fail
          try simp only [List.cons_append, List.nil_append, List.append_eq]
          refine wp_region_held_drew (S := (fun w' => w'.cell? ⟨g, i, none⟩ = some (.slice (some ⟨w2.heap.size, 0, none⟩) n n) ∧ w'.cell? ⟨W.heap.size, 0, none⟩ = some (.int .i64 x) ∧ w'.cell? ⟨W.heap.size, 1, none⟩ = some (.int .i64 y) ∧ w'.cell? ⟨W.heap.size, 2, none⟩ = some (.int .i64 z))) (by kernel_rfl) ?_ (fun hHeld0 => ?_)
          · (try dsimp only); first | go_keep | exact HBx.out _ _ hs.out.dr
          refine wpAnyH_take (i := 0) (oi := { dst := some 43, op := Go.Op.move (Go.Operand.tmp 3), type := 24, pos := "l11_det.go:77", after := #[], guard := none }) (v := ?_) rfl (by kernel_rfl) (by kernel_rfl) (by kernel_rfl) (fun _ _ _ h => h) (Or.inl ⟨by rfl, ?_⟩) (by assumption) ?_
          rotate_left
          · (intro w hSw; (try dsimp only at hSw); go_simp; try with_reducible rfl)
          try simp only [Act.put, List.setIfInBounds_toArray, List.set_cons_zero, List.set_cons_succ]
          refine wpAnyH_take (i := 1) (oi := { dst := some 44, op := Go.Op.move (Go.Operand.tmp 4), type := 3, pos := "l11_det.go:77", after := #[], guard := none }) (v := ?_) rfl (by kernel_rfl) (by kernel_rfl) (by kernel_rfl) (fun _ _ _ h => h) (Or.inl ⟨by rfl, ?_⟩) (by assumption) ?_
          rotate_left
          · (intro w hSw; (try dsimp only at hSw); go_simp; try with_reducible rfl)
          try simp only [Act.put, List.setIfInBounds_toArray, List.set_cons_zero, List.set_cons_succ]
          refine wpAnyH_take (i := 2) (oi := { dst := some 45, op := Go.Op.indexAddr 24 (Go.Operand.tmp 43) (Go.Operand.tmp 44), type := 0, pos := "l11_det.go:77", after := #[{ on := 0, ground := Go.Ground.data }, { on := 1, ground := Go.Ground.data }], guard := none }) (v := ?_) rfl (by kernel_rfl) (by kernel_rfl) (by kernel_rfl) (fun _ _ _ h => h) (Or.inl ⟨by rfl, ?_⟩) (by assumption) ?_
          rotate_left
          · (intro w hSw; (try dsimp only at hSw); go_simp; try with_reducible rfl)
          try simp only [Act.put, List.setIfInBounds_toArray, List.set_cons_zero, List.set_cons_succ]
          refine wpAnyH_take (i := 3) (oi := { dst := some 46, op := Go.Op.load 29 (Go.Operand.tmp 45), type := 29, pos := "l11_det.go:77", after := #[{ on := 2, ground := Go.Ground.data }], guard := none }) (v := ?_) rfl (by kernel_rfl) (by kernel_rfl) (by kernel_rfl) (fun _ _ _ h => h) (Or.inl ⟨by rfl, ?_⟩) (by assumption) ?_
          rotate_left
          · (intro w hSw; (try dsimp only at hSw); go_simp; try with_reducible rfl)
          try simp only [Act.put, List.setIfInBounds_toArray, List.set_cons_zero, List.set_cons_succ]
          refine wpAnyH_take (i := 4) (oi := { dst := some 47, op := Go.Op.load 41 (Go.Operand.tmp 1), type := 41, pos := "l11_det.go:77", after := #[], guard := none }) (v := ?_) rfl (by kernel_rfl) (by kernel_rfl) (by kernel_rfl) (fun _ _ _ h => h) (Or.inl ⟨by rfl, ?_⟩) (by assumption) ?_
          rotate_left
          · (intro w hSw; (try dsimp only at hSw); go_simp; try with_reducible rfl)
          try simp only [Act.put, List.setIfInBounds_toArray, List.set_cons_zero, List.set_cons_succ]
          refine wpAnyH_take (i := 5) (oi := { dst := some 48, op := Go.Op.move (Go.Operand.tmp 4), type := 3, pos := "l11_det.go:77", after := #[], guard := none }) (v := ?_) rfl (by kernel_rfl) (by kernel_rfl) (by kernel_rfl) (fun _ _ _ h => h) (Or.inl ⟨by rfl, ?_⟩) (by assumption) ?_
          rotate_left
          · (intro w hSw; (try dsimp only at hSw); go_simp; try with_reducible rfl)
          try simp only [Act.put, List.setIfInBounds_toArray, List.set_cons_zero, List.set_cons_succ]
          refine wpAnyH_take (i := 6) (oi := { dst := some 49, op := Go.Op.move (Go.Operand.tmp 7), type := 3, pos := "l11_det.go:77", after := #[], guard := none }) (v := ?_) rfl (by kernel_rfl) (by kernel_rfl) (by kernel_rfl) (fun _ _ _ h => h) (Or.inl ⟨by rfl, ?_⟩) (by assumption) ?_
          rotate_left
          · (intro w hSw; (try dsimp only at hSw); go_simp; try with_reducible rfl)
          try simp only [Act.put, List.setIfInBounds_toArray, List.set_cons_zero, List.set_cons_succ]
          refine wpAnyH_ready (rs := [7]) (by kernel_rfl) (by simp) ?_
          refine AllReadyH.cons (o := { dst := some 50, op := Go.Op.call { callee := Go.Callee.value (Go.Operand.func 47), args := #[Go.Operand.tmp 47, Go.Operand.tmp 48, Go.Operand.tmp 49], argTypes := #[41, 3, 3] }, type := 3, pos := "l11_det.go:77", after := #[{ on := 4, ground := Go.Ground.data }, { on := 5, ground := Go.Ground.data }, { on := 6, ground := Go.Ground.data }], guard := none }) rfl (fun K7 hK7 => ?_) AllReadyH.nil
          go_simp
          (refine (HS2.out _).mono ?_; rintro e w3 ⟨rfl, hb3⟩; have hs3 := Lib.hid (hs.out.dr.call hb3); clear hb3; obtain ⟨⟨u, hcr⟩, hfr⟩ := HSp.out _ hs3.out; have hs4 := Lib.hid (HPt.out _ hs3.out))
          go_wp2_with fail
          refine hK7.out _ _ ?_ (fun hHeld1 => ?_)
          · (try dsimp only); exact HBx.out _ _ hs3.out
          clear hK7 K7 hHeld0
          try simp only [Act.put, List.setIfInBounds_toArray, List.set_cons_zero, List.set_cons_succ]
          refine wpAnyH_take (i := 8) (oi := { dst := some 51, op := Go.Op.indexAddr 29 (Go.Operand.tmp 46) (Go.Operand.tmp 50), type := 0, pos := "l11_det.go:77", after := #[{ on := 3, ground := Go.Ground.data }, { on := 7, ground := Go.Ground.data }, { on := 0, ground := Go.Ground.phase }, { on := 1, ground := Go.Ground.phase }, { on := 2, ground := Go.Ground.phase }, { on := 3, ground := Go.Ground.phase }, { on := 4, ground := Go.Ground.phase }, { on := 5, ground := Go.Ground.phase }, { on := 6, ground := Go.Ground.phase }, { on := 7, ground := Go.Ground.phase }], guard := none }) (v := ?_) rfl (by kernel_rfl) (by kernel_rfl) (by kernel_rfl) (fun _ _ _ h => h) (Or.inl ⟨by rfl, ?_⟩) (by assumption) ?_
          rotate_left
          · (intro w hSw; (try dsimp only at hSw); go_simp; try with_reducible rfl)
          try simp only [Act.put, List.setIfInBounds_toArray, List.set_cons_zero, List.set_cons_succ]
          refine wpAnyH_ready (rs := [9]) (by kernel_rfl) (by simp) ?_
          refine AllReadyH.cons (o := { dst := none, op := Go.Op.store 3 (Go.Operand.tmp 51) (Go.Operand.const (Go.Value.int Go.IntKind.i64 (-1))), type := 0, pos := "l11_det.go:77", after := #[{ on := 8, ground := Go.Ground.data }, { on := 7, ground := Go.Ground.chain }, { on := 0, ground := Go.Ground.phase }, { on := 1, ground := Go.Ground.phase }, { on := 2, ground := Go.Ground.phase }, { on := 3, ground := Go.Ground.phase }, { on := 4, ground := Go.Ground.phase }, { on := 5, ground := Go.Ground.phase }, { on := 6, ground := Go.Ground.phase }, { on := 7, ground := Go.Ground.phase }], guard := none }) rfl (fun K9 hK9 => ?_) AllReadyH.nil
          go_simp
          refine hK9.out _ _ ?_ (fun hHeld2 => ?_)
          · (try dsimp only); exact HBx.out _ _ hs4.out
          clear hK9 K9 hHeld1
          try simp only [Act.put, List.setIfInBounds_toArray, List.set_cons_zero, List.set_cons_succ]
          refine wpAnyH_done (by kernel_rfl) ?_ _
          go_wp2_with fail
          go_roundw
          case rel => exact ⟨j + 1, by omega, by go_num, by have := hs4.out; rw [List.set_set] at this; rw [HE1.out]; exact this⟩
          case measure => simp [intOf]; omega
        · obtain rfl : j = m := by omega
          have hdj : decide ((j : Int) < (j : Int)) = false := by simp
          have hfin := Lib.hid hs.out.1
          rw [← HFin.out] at hfin
          clear hs
          go_wp2_with fail
          go_roundw
          case rel => exact ⟨i + 1, by omega, by go_num, hfin.out⟩
          case measure => simp [intOf]; omega
    · obtain rfl : i = n := by omega
      have hd : decide ((i : Int) < (i : Int)) = false := by simp
      have HE := Lib.hid (HEnd.out _ _ hs.out)
      clear hs
      go_wp2_with fail
      go_ret
      exact HE.out

theorem laplaceOfI_any (x y z : Int) (W : World) :
    Calls Try.prog 21 #[.agg #[.int .i64 x, .int .i64 y, .int .i64 z]] W (Mtx (lpZ x y z) W) := by
  by_cases hv : OkM x y z
  · exact laplaceOfI_good x y z W hv
  · have HM : Hid (∀ X, Calls Try.prog 44 #[.agg #[.int .i64 x, .int .i64 y, .int .i64 z]] X (Bl false X)) := Lib.hid fun X => by
      have := mazeI.ok_any x y z X
      rwa [show okB x y z = false from decide_eq_false hv] at this
    have HE : Hid (∀ X, Below W.heap.size W X → Mtx (lpZ x y z) W (.returned (.slice none 0 0)) X) := Lib.hid fun X hb => by
      have h := ml_nil hb (Nat.le_refl _) hb.size
      have e : lpZ x y z = [] := by
        unfold lpZ
        rw [if_neg (by rw [show okB x y z = false from decide_eq_false hv]; decide)]
      rw [e]; exact mtx_mk h.2.2.2 h.2.1 (Nat.le_refl _) h.1
    have HX0 := Lib.hid (fun T => mbox_new x y z W T)
    have HB0 := Lib.hid (fun T => below_box W (.cells #[.int .i64 x, .int .i64 y, .int .i64 z] T))
    clear hv
    go_enter Try.func21, Try.ntmps21
    go_wp2_with fail
    refine (HM.out _).mono ?_
    rintro e w0 ⟨rfl, hb⟩
    have hb0 := Lib.hid (below_call (HB0.out _) hb)
    clear hb
    go_wp2_with fail
    go_ret
    exact HE.out _ hb0.out
end Go.Proofs.Ytjdmlhdagmggjaa.detI
