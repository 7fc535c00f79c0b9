/- The contracts of the program's joining of two parts and of the parts at the start. -/
import Derived.Test.YthgnhamokikhkaaWalJ
import Derived.Test.YthgnhamokikhkaaPrgG
namespace Go.Proofs.Ythgnhamokikhkaa.walK
open Go.ChangeShapes Go.WideShapes Go.ChangeAt Go.RowKit
open draw gridP gridC gridE gridI bitP mazeP mazeC mazeM mazeR intsP reachP reachM reachN reachD forest perfP walP walR walS walJ
set_option linter.unusedVariables false

/-- A call answers an array. -/
def Ar (L : Nat → Nat) (w : World) (e : Ending) (w' : World) : Prop := e = .returned (.agg (vC L)) ∧ Below w.heap.size w w'
theorem ar_mk {L : Nat → Nat} {w w' : World} (hb : Below w.heap.size w w') : Ar L w (.returned (.agg (vC L))) w' := ⟨rfl, hb⟩

/-- What stands while two parts are joined. -/
def JR (W : World) (L : Nat → Nat) (X : World) : Prop := Below W.heap.size W X ∧ AB W.heap.size L X ∧ AB (W.heap.size + 1) (fun _ => 0) X
theorem JR.dr {W X : World} {L : Nat → Nat} (h : JR W L X) (n : Nat) : JR W L (X.drewN n) := ⟨below_draws h.1 n, h.2.1, h.2.2⟩
theorem JR.put {W X : World} {L L' : Nat → Nat} (h : JR W L X) {i u : Nat} (hi : i < 25) (hu : L' i = u) (hf : ∀ j, j ≠ i → L' j = L j) : JR W L' (X.setCell ⟨W.heap.size, i, none⟩ (.int .i64 (u : Int))) :=
  ⟨h.1.setCell (Nat.le_refl _) _, h.2.1.put hi hu hf, by
    have := h.2.2
    rw [setCell_eq_setRow X _ i _ _ _ _ h.2.1]
    exact this.far _ (by omega)⟩
theorem zero_cells : #[Value.int .i64 0, .int .i64 0, .int .i64 0, .int .i64 0, .int .i64 0, .int .i64 0, .int .i64 0, .int .i64 0, .int .i64 0, .int .i64 0, .int .i64 0, .int .i64 0, .int .i64 0, .int .i64 0, .int .i64 0, .int .i64 0, .int .i64 0, .int .i64 0, .int .i64 0, .int .i64 0, .int .i64 0, .int .i64 0, .int .i64 0, .int .i64 0, .int .i64 0] = vC (fun _ => 0) := by rfl
theorem jr_new (W : World) (L : Nat → Nat) : JR W L ((W.alloc (.cells (vC L) 84)).alloc (.cells (vC (fun _ => 0)) 84)) :=
  ⟨below_call (below_box _ _) (below_box _ _), (AB.new L W).call (below_box _ _), by
    have := AB.new (fun _ => 0) (W.alloc (.cells (vC L) 84))
    rwa [show (W.alloc (.cells (vC L) 84)).heap.size = W.heap.size + 1 from by simp] at this⟩

set_option maxRecDepth 100000 in
set_option maxHeartbeats 4000000 in
theorem joined_any (L : Nat → Nat) (a b : Nat) (W : World) (ha : a < 25) (hb : b < 25) :
    Calls Try.prog 85 #[.agg (vC L), .int .i64 a, .int .i64 b] W (Ar (mgN L b a) W) := by
  have HK := @Lib.hid _ (fun w' b' => @ar_mk (mgN L b a) W w' b')
  have HN := Lib.hid (jr_new W L)
  have a0 : (0 : Int) ≤ (a : Int) := Int.natCast_nonneg _
  have a1 : (a : Int) < 25 := by omega
  have b0 : (0 : Int) ≤ (b : Int) := Int.natCast_nonneg _
  have b1 : (b : Int) < 25 := by omega
  go_enter Try.func85, Try.ntmps85
  go_wp2_with fail
  rw [zero_cells]
  generalize (W.alloc (.cells (vC L) 84)).alloc (.cells (vC (fun _ => 0)) 84) = w1 at *
  obtain ⟨ca, fa⟩ := HN.out.2.1.cell ha
  obtain ⟨cb, fb⟩ := HN.out.2.1.cell hb
  have HJ := Lib.hid (fun n => HN.out.dr n)
  go_quiet (fail)
  go_wp2_with (refine at_load (HJ.out _).2.1 rfl ?_)
  have hj0 := Lib.hid (HJ.out nq)
  clear HN HJ ca fa cb fb
  generalize w1.drewN nq = w2 at *
  go_loopw [18] (fun u18 wr => ∃ i : Nat, i ≤ 25 ∧ u18 = .int .i64 i ∧ JR W (miN L b a i) wr) (fun u18 _ => 25 - (intOf u18).toNat)
  case atStart => exact ⟨0, Nat.zero_le _, rfl, by rw [mi_zero]; exact hj0.out⟩
  case round =>
    clear hj0
    obtain ⟨i, hi, rfl, hj⟩ := hrel
    have HJ := Lib.hid hj
    clear hj
    by_cases hi25 : i < 25
    · have hx := index_arr L hi25 wr
      have i0 : (0 : Int) ≤ (i : Int) := Int.natCast_nonneg _
      have i1 : (i : Int) < 25 := by omega
      obtain ⟨ci, fi⟩ := HJ.out.2.1.cell hi25
      by_cases he : L i = L a
      · have hc : (((L i : Nat) : Int) == ((L a : Nat) : Int)) = true := by rw [he]; simp
        have HN := Lib.hid (HJ.out.put (L' := miN L b a (i + 1)) hi25 (by rw [mi_step, if_pos he]) fun j hj => mi_far hj)
        go_wp2_with fail
        go_roundw
        case rel => exact ⟨i + 1, by omega, by go_num, HN.out⟩
        case measure => simp [intOf]; omega
      · have hc : (((L i : Nat) : Int) == ((L a : Nat) : Int)) = false := by rw [beq_eq_false_iff_ne]; omega
        have HN0 := HJ.out
        rw [← mi_keep he] at HN0
        have HN := Lib.hid HN0
        clear HN0
        go_wp2_with fail
        go_roundw
        case rel => exact ⟨i + 1, by omega, by go_num, HN.out⟩
        case measure => simp [intOf]; omega
    · obtain rfl : i = 25 := by omega
      have hmi : vC (miN L b a 25) = vC (mgN L b a) := by
        unfold vC
        exact congrArg List.toArray (List.map_congr_left fun c hc => by rw [miN, if_pos (List.mem_range.1 hc)])
      have hab := HJ.out.2.1
      have hab2 := HJ.out.2.2
      unfold AB at hab
      rw [hmi] at hab
      have HA := Lib.hid (show AB W.heap.size (mgN L b a) wr from hab)
      have HA2 := Lib.hid hab2
      have HBl := Lib.hid HJ.out.1
      clear HJ hab hab2 hmi
      go_wp2_with (first | refine at_load HA.out rfl ?_ | refine at_store (mgN L b a) HA2.out rfl rfl ?_)
      exact bodyPost_ret (results_arr rfl _ (HA2.out.row _) rfl) rfl (HK.out _ (below_setRow HBl.out (Nat.le_succ _) _))
end Go.Proofs.Ythgnhamokikhkaa.walK
