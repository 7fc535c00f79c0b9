/- The contract of the program's lines of a maze: a builder for each line. -/
import Derived.Test.YtmmdngfhfceefaaDoorLinI
import Derived.Test.YtmmdngfhfceefaaDoorBldI
namespace Go.Proofs.YtmmdngfhfceefaaDoor.linJ
open Go.ChangeShapes Go.WideShapes Go.ChangeAt Go.RowKit
open draw gridP gridC gridE bitP mazeP mazeC mazeM mazeI intsP reachP reachM reachN reachD intA listK forest deadP linP splP listT linR linQ linI bldI
set_option linter.unusedVariables false

theorem ownF_call {w w' : World} {base : Nat} {e : TypeId} {size n : Nat} {v : Value} {xs : List Value} (h : w.ownsRowF base e size v n xs) (hb : Below w.heap.size w w') : w'.ownsRowF base e size v n xs := by
  refine ⟨h.1, ?_⟩
  rcases h.2 with h2 | ⟨g, cap, cur, fz, rfl, hg, hh, r⟩
  · exact .inl h2
  · exact .inr ⟨g, cap, cur, fz, rfl, hg, (hb.block g (Array.getElem?_eq_some_iff.1 hh).1).trans hh, r⟩
theorem bdF_call {B b : Nat} {p : Value} {bs : List Value} {w w' : World} (h : Lib.BuilderAtF 51 5 B b p bs w) (hb : Below w.heap.size w w') : Lib.BuilderAtF 51 5 B b p bs w' := by
  obtain ⟨hB, v, hbk, hown, hne⟩ := h
  exact ⟨hB, v, (hb.block b (Array.getElem?_eq_some_iff.1 hbk).1).trans hbk, ownF_call hown hb, hne⟩
/-- A builder stands over a call that leaves all that was there. -/
theorem bd_call {B b : Nat} {bs : List Value} {w w' : World} (h : Bd B b bs w) (hb : Below w.heap.size w w') : Bd B b bs w' := h.elim (fun h => .inl (bdF_call h hb)) (fun h => .inr (bdF_call h hb))

/-- The lines that are written, and those that are still empty. -/
def ljL (x y z : Int) (n k : Nat) : List (List UInt8) := (List.range k).map (lnL x y z) ++ List.replicate (n - k) []
theorem lj_set (x y z : Int) {n k : Nat} (h : k < n) : (ljL x y z n k).set k (lnL x y z k) = ljL x y z n (k + 1) := by
  unfold ljL
  rw [List.range_succ, List.map_append, List.set_append_right k _ (by simp), show n - k = (n - (k + 1)) + 1 from by omega, List.replicate_succ]
  simp
theorem lj_all {x y z : Int} (hv : OkM x y z) : ljL x y z (cW y) (cW y) = mlL x y z := by unfold ljL mlL; rw [if_pos hv]; simp
theorem lj_len (x y z : Int) {n k : Nat} (h : k ≤ n) : (ljL x y z n k).length = n := by unfold ljL; simp; omega
/-- A line as far as it is written. -/
def rjL (x y z : Int) (k c : Nat) : List UInt8 := (List.range c).map fun c => chU (chB x y z k c)
theorem rj_next (x y z : Int) (k c : Nat) : rjL x y z k c ++ [chU (chB x y z k c)] = rjL x y z k (c + 1) := by unfold rjL; rw [List.range_succ, List.map_append]; rfl
theorem rj_all (x y z : Int) (k : Nat) : rjL x y z k (cW x) = lnL x y z k := rfl
theorem rj_len (x y z : Int) (k c : Nat) : (rjL x y z k c).length = c := by unfold rjL; simp
theorem made_str : ∀ n : Nat, (madeCells (Value.string ⟨#[]⟩).cells n).toList = scells (List.replicate n []) := by
  intro n
  simp [madeCells, Value.cells, scells]
  apply List.ext_getElem
  · simp
  · intro i h1 h2; simp [Nat.mod_one]

/-- While lines are written: the maze, the list. -/
def LJ (W : World) (x y z : Int) (Q n : Nat) (l : List (List UInt8)) (X : World) : Prop :=
  Below W.heap.size W X ∧ MBox W.heap.size x y z X ∧ X.ownsRow (W.heap.size + 1) 9 1 (.slice (some ⟨Q, 0, none⟩) n n) n (scells l)
theorem LJ.call {W X X' : World} {x y z : Int} {Q n : Nat} {l : List (List UInt8)} (h : LJ W x y z Q n l X) (hb : Below X.heap.size X X') : LJ W x y z Q n l X' := ⟨below_call h.1 hb, h.2.1.call hb, own_call h.2.2 hb⟩
theorem LJ.put {W X : World} {x y z : Int} {Q n : Nat} {l : List (List UInt8)} (h : LJ W x y z Q n l X) (j : Nat) (u : List UInt8) : LJ W x y z Q n (l.set j u) (X.setCell ⟨Q, j, none⟩ (.string ⟨u.toArray⟩)) := by
  obtain ⟨h1, h2, h3⟩ := h
  have hg : X.grownBy (X.setCell ⟨Q, j, none⟩ (.string ⟨u.toArray⟩)) (some Q) := grown_set (grown_refl _ _) _
  have hQ : W.heap.size + 1 ≤ Q := (h3.lt Q rfl).1
  refine ⟨below_marked h1 hg (fun g e => by cases e; omega), mbox_marked h2 hg (fun g e => by cases e; omega), ?_⟩
  have h10 := (h3.stored j (.string ⟨u.toArray⟩)).1
  have e : (scells l).set j (.string ⟨u.toArray⟩) = scells (l.set j u) := by simp [scells, List.map_set]
  rwa [e] at h10
theorem LJ.cell {W X : World} {x y z : Int} {Q n : Nat} {l : List (List UInt8)} (h : LJ W x y z Q n l X) (j : Nat) (hj : j < n) : (∃ old, X.cell? ⟨Q, j, none⟩ = some old) ∧ X.frozen? ⟨Q, j, none⟩ = false := by
  have hl : (scells l).length = n := by have := h.2.2.1; omega
  exact ⟨⟨_, (h.2.2.cellAt j (by omega)).trans (List.getElem?_eq_getElem (by omega))⟩, h.2.2.frozenAt j⟩
theorem lj_new {W X : World} {x y z : Int} (hb : Below W.heap.size W X) (hx : MBox W.heap.size x y z X) (n : Nat) (hm : n ≤ maxLen) : LJ W x y z X.heap.size n (ljL x y z n 0) (X.alloc (.cells (madeCells (Value.string ⟨#[]⟩).cells n) 9)) := by
  refine ⟨hb.alloc hb.size _, hx.call (below_box _ _), ?_⟩
  have := World.ownsRow_lit (base := W.heap.size + 1) (e := 9) (size := 1) X (madeCells (Value.string ⟨#[]⟩).cells n) n hx.2 hm (by rw [size_madeCells]; omega)
  rw [made_str] at this
  simpa [ljL] using this

set_option maxRecDepth 100000 in
set_option maxHeartbeats 2000000 in
theorem mazeLines_any (x y z : Int) (W : World) :
    Calls Tryd.prog 8 #[.agg #[.int .i64 x, .int .i64 y, .int .i64 z]] W (Txs (mlL x y z) W) := by
  have HO := Lib.hid (fun X => ok_any x y z X)
  have HX := Lib.hid (fun T => mbox_new x y z W T)
  have HBo := Lib.hid (fun o => below_box W o)
  have HK := @Lib.hid _ (fun w' v n base => @txs_mk (mlL x y z) W w' v n base)
  by_cases hv : OkM x y z
  · rw [show okB x y z = true from decide_eq_true hv] at HO
    obtain ⟨i0, hi0, hz0, hz1, hz2⟩ := info_parts info_str
    obtain ⟨hk, o, hzo, ho⟩ := okm_of hv
    obtain ⟨h1, h2, h3, h4⟩ := id hk
    have HDo : Hid (∀ k c, k < cW y → c < cW x → ∀ X, Calls Tryd.prog 22 #[.agg #[.int .i64 x, .int .i64 y, .int .i64 z], .int .i64 (k : Nat), .int .i64 (c : Nat)] X (Bl (chB x y z k c) X)) := Lib.hid fun k c hk' hc' X => by
      have hcx : cW x ≤ 9 := by unfold cW; omega
      have hcy : cW y ≤ 9 := by unfold cW; omega
      rw [hzo, ← do_is hk ho hk' hc']
      exact drawnOpen_any x y o k c X hk (by omega) (by omega)
    have HNew := Lib.hid (fun X hb hx hm => @lj_new W X x y z hb hx (cW y) hm)
    have HSet := Lib.hid (fun k h => @lj_set x y z (cW y) k h)
    have HLen := Lib.hid (fun k h => @lj_len x y z (cW y) k h)
    have HAll := Lib.hid (lj_all hv)
    have HRn := Lib.hid (fun k c => rj_next x y z k c)
    have HRa := Lib.hid (fun k => rj_all x y z k)
    have HRl := Lib.hid (fun k c => rj_len x y z k c)
    have HR0 : Hid (∀ k, rjL x y z k 0 = []) := Lib.hid fun k => rfl
    have hnI : (cW y : Int) = 2 * y + 1 := by unfold cW; omega
    have hmI : (cW x : Int) = 2 * x + 1 := by unfold cW; omega
    have HWr := Lib.hid (fun B b bs c w h hl hB => write_byte B b bs c w h hl hB)
    have HSt := Lib.hid (fun B b l w h hB => bd_string B b l w h hB)
    clear hv hk ho hzo
    generalize cW y = n at *
    generalize cW x = m at *
    generalize chB x y z = ch at *
    generalize ljL x y z n = lj at *
    generalize rjL x y z = rj at *
    generalize lnL x y z = ln at *
    generalize mlL x y z = ml at *
    go_enter Tryd.func8, Tryd.ntmps8
    go_wp2_with fail
    refine (HO.out _).mono ?_
    rintro e w1 ⟨rfl, hb⟩
    have hb1 := Lib.hid (below_call (HBo.out _) hb)
    have hx1 := Lib.hid ((HX.out _).call hb)
    obtain ⟨m0, m1, m2⟩ := hx1.out.1
    clear hb HX HBo HO
    have hmk := run_make (P := Tryd.prog) w1 29 9 i0 (.string ⟨#[]⟩) Tryd.underlying29 hi0 hz0 .i64 .i64 (2 * y + 1) (2 * y + 1) (by omega) (by omega) (by rw [hz2]; omega) (by omega)
    rw [hz1, show (2 * y + 1).toNat = n from by omega] at hmk
    simp only [Nat.mul_one] at hmk
    have hlj0 := Lib.hid (HNew.out w1 hb1.out hx1.out (by unfold maxLen; omega))
    clear HNew hb1 hx1
    go_wp2_with fail
    clear hmk m0 m1 m2
    generalize w1.heap.size = Q at *
    go_loopw [18] (fun u18 wr => ∃ k : Nat, k ≤ n ∧ u18 = .int .i64 k ∧ LJ W x y z Q n (lj k) wr) (fun u18 _ => n - (intOf u18).toNat)
    case atStart => exact ⟨0, Nat.zero_le _, rfl, hlj0.out⟩
    case round =>
      clear hlj0
      obtain ⟨k, hk, rfl, hlj1⟩ := hrel
      have hlj := Lib.hid hlj1
      clear hlj1
      have hk0 : (0 : Int) ≤ (k : Int) := Int.natCast_nonneg _
      by_cases hkn : k < n
      · have hk1 : (k : Int) < (n : Int) := by omega
        have hd1 : decide ((k : Int) < 2 * y + 1) = true := by simp; omega
        have HS1 := Lib.hid (HSet.out k hkn)
        have HD1 := Lib.hid (fun c h => HDo.out k c hkn h)
        have hbd0 := Lib.hid (bd_new wr)
        have hbl0 := Lib.hid (below_box wr (.cells #[.pointer none, .slice none 0 0] 51))
        obtain ⟨m0, m1, m2⟩ := (hlj.out.call hbl0.out).2.1.1
        go_wp2_with fail
        clear m0 m1 m2
        go_loopw [26] (fun u26 wq => ∃ c : Nat, c ≤ m ∧ u26 = .int .i64 c ∧ Bd wr.heap.size wr.heap.size (Lib.byteCells (rj k c)) wq ∧ Below wr.heap.size wr wq) (fun u26 _ => m - (intOf u26).toNat)
        case atStart => exact ⟨0, Nat.zero_le _, rfl, by rw [HR0.out]; exact hbd0.out, hbl0.out⟩
        case round =>
          clear hbd0 hbl0
          obtain ⟨c, hc, rfl, hbd1, hbl1⟩ := hrel
          have hbd := Lib.hid hbd1
          have hbl := Lib.hid hbl1
          have hsz := hbl1.size
          clear hbd1 hbl1
          obtain ⟨m0, m1, m2⟩ := (hlj.out.call hbl.out).2.1.1
          have hc0 : (0 : Int) ≤ (c : Int) := Int.natCast_nonneg _
          have hlen : (Lib.byteCells (rj k c)).length + 1 ≤ 140737488355328 := by
            rw [Lib.byteCells_length, HRl.out]; omega
          by_cases hcm : c < m
          · have hc1 : (c : Int) < (m : Int) := by omega
            have hd2 : decide ((c : Int) < 2 * x + 1) = true := by simp; omega
            have HD2 := Lib.hid (HD1.out c hcm)
            have HN := HRn.out k c
            go_wp2_with fail
            refine (HD2.out _).mono ?_
            rintro e w3 ⟨rfl, hb⟩
            have hbd3 := Lib.hid (bd_call hbd.out hb)
            have hbl3 := Lib.hid (below_call hbl.out hb)
            have hsz3 := hbl3.out.size
            clear hb hbd hbl HD2 m0 m1 m2
            generalize hch : ch k c = cb at *
            cases cb with
            | true =>
              have HN2 : Hid (Lib.byteCells (rj k c) ++ [.int .u8 32] = Lib.byteCells (rj k (c + 1))) := Lib.hid (by rw [← HN]; exact byteCells_snoc _ 32)
              clear HN hch
              go_wp2_with fail
              refine (HWr.out _ _ _ _ _ hbd3.out hlen hsz3).mono ?_
              rintro e w4 ⟨rfl, h4', b4⟩
              rw [HN2.out] at h4'
              have hbd4 := Lib.hid h4'
              have hbl4 := Lib.hid (hbl3.out.trans b4)
              clear h4' b4
              go_wp2_with fail
              go_roundw
              case rel => exact ⟨c + 1, by omega, by go_num, hbd4.out, hbl4.out⟩
              case measure => simp [intOf]; omega
            | false =>
              have HN2 : Hid (Lib.byteCells (rj k c) ++ [.int .u8 35] = Lib.byteCells (rj k (c + 1))) := Lib.hid (by rw [← HN]; exact byteCells_snoc _ 35)
              clear HN hch
              go_wp2_with fail
              refine (HWr.out _ _ _ _ _ hbd3.out hlen hsz3).mono ?_
              rintro e w4 ⟨rfl, h4', b4⟩
              rw [HN2.out] at h4'
              have hbd4 := Lib.hid h4'
              have hbl4 := Lib.hid (hbl3.out.trans b4)
              clear h4' b4
              go_wp2_with fail
              go_roundw
              case rel => exact ⟨c + 1, by omega, by go_num, hbd4.out, hbl4.out⟩
              case measure => simp [intOf]; omega
          · obtain rfl : c = m := by omega
            have hd2 : decide ((c : Int) < 2 * x + 1) = false := by simp; omega
            go_wp2_with fail
            refine (HSt.out _ _ _ _ hbd.out hsz).mono ?_
            rintro e w3 ⟨rfl, -, b3⟩
            have hlj3 := Lib.hid (hlj.out.call (hbl.out.trans b3))
            rw [HRa.out]
            obtain ⟨⟨old, hcell⟩, hfz⟩ := hlj3.out.cell k hkn
            have hlj4 := hlj3.out.put k (ln k)
            rw [HS1.out] at hlj4
            have hlj5 := Lib.hid hlj4
            clear hlj4 b3 hbd hbl m0 m1 m2
            go_wp2_with fail
            go_roundw
            case rel => exact ⟨k + 1, by omega, by go_num, hlj5.out⟩
            case measure => simp [intOf]; omega
      · obtain rfl : k = n := by omega
        have hd1 : decide ((k : Int) < 2 * y + 1) = false := by simp; omega
        have hl := HLen.out k (Nat.le_refl _)
        rw [HAll.out] at hl hlj
        have Hl := Lib.hid hl.symm
        clear hl
        go_wp2_with fail
        go_ret
        exact HK.out _ _ _ _ Hl.out hlj.out.2.2 (Nat.le_succ _) hlj.out.1
  · rw [show okB x y z = false from decide_eq_false hv] at HO
    have hend : Hid (mlL x y z = []) := Lib.hid (by unfold mlL; rw [if_neg hv])
    clear hv
    go_enter Tryd.func8, Tryd.ntmps8
    go_wp2_with fail
    refine (HO.out _).mono ?_
    rintro e w1 ⟨rfl, hb⟩
    have hb1 := Lib.hid (below_call (HBo.out _) hb)
    clear hb HX HBo HO
    go_wp2_with fail
    go_ret
    exact HK.out _ _ _ _ (by rw [hend.out]) (by rw [hend.out]; exact World.ownsRow_nil _ _ _ _) (Nat.le_refl _) hb1.out
end Go.Proofs.YtmmdngfhfceefaaDoor.linJ
