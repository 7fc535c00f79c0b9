/- The contracts of the program's functions on dead ends, but for the filling. -/
import Derived.Test.YtcoikcnijaniaaaDeads
import Derived.Test.YtcoikcnijaniaaaPrgM
import Derived.Test.YtcoikcnijaniaaaListK
import Derived.Test.YtcoikcnijaniaaaSetI
import Derived.Test.YtcoikcnijaniaaaSetH
namespace Go.Proofs.Ytcoikcnijaniaaa.deadI
open Go.ChangeShapes Go.WideShapes Go.ChangeAt Go.RowKit
open draw gridP gridC gridE bitP mazeP mazeC mazeM mazeR mazeI intsP reachP reachM reachN reachD intA listK forest deadP deadR setI
set_option linter.unusedVariables false

/-- How many cells a grid has, 0 where there is no such grid. -/
def cI (x y : Int) : Nat := if OkZ x y then cN x y else 0
theorem cI_le (x y : Int) : cI x y ≤ 16 := by
  unfold cI; split
  · rename_i h; exact (nn3 h).2.2
  · omega
theorem cellsI (x y : Int) (X : World) : Calls Try.prog 48 #[.agg #[.int .i64 x, .int .i64 y]] X (Nm (cI x y : Int) X) := by
  unfold cI; split
  · rename_i h; rw [← (nn3 h).1]; exact gridI.countCells_yes x y X h.1 h.2.1 h.2.2.1 h.2.2.2
  · rename_i h; exact gridI.countCells_no x y X h
theorem ps_bad {x y z : Int} (h : ¬ OkM x y z) (g : Int) : psB x y z g = false := by
  unfold psB; exact decide_eq_false fun h' => h h'.1
theorem wl_bad {x y z : Int} (h : ¬ OkM x y z) (k : Int) : wlZ x y z k = [] := by
  have key : ∀ n : Nat, wlN x y z k n = [] := by
    intro n
    induction n with
    | zero => rfl
    | succ n ih =>
      unfold wlN
      rw [if_neg (by unfold stZ; rw [ps_bad h]; simp), ih]
  exact key 4
theorem cl_none {p : Nat → Bool} (h : ∀ k, p k = false) : ∀ n, clN p n = []
  | 0 => rfl
  | n + 1 => by unfold clN; rw [h n, if_neg (by simp)]; exact cl_none h n
/-- The cells of a property that no cell of a bad maze has. -/
theorem cl_all {x y z : Int} {p : Nat → Bool} {q : Nat → Bool} (he : ∀ k, p k = q k) (hb : ¬ OkM x y z → ∀ k, q k = false) : clN p (cI x y) = if OkM x y z then clN q (cN x y) else [] := by
  obtain rfl : p = q := funext he
  split
  · rename_i h; unfold cI; rw [if_pos (show OkZ x y from h.1)]
  · rename_i h; exact cl_none (hb h) _
theorem wl_len4 (x y z k : Int) : (wlZ x y z k).length ≤ 4 := wlN_len x y z k 4
theorem wl_dirs (x y z k : Int) : ∀ n : Nat, ∀ d ∈ wlN x y z k n, 0 ≤ d ∧ d < n := fun n d hd => (mazeQ.wl_mem n d hd).1
theorem wl_asc (x y z k : Int) : ∀ n : Nat, (wlN x y z k n).Pairwise (· < ·)
  | 0 => List.Pairwise.nil
  | n + 1 => by
    unfold wlN
    split
    · refine List.pairwise_append.2 ⟨wl_asc x y z k n, by simp, fun a ha b hb => ?_⟩
      have := wl_dirs x y z k n a ha
      rw [List.mem_singleton.1 hb]; omega
    · exact wl_asc x y z k n

/-- A closure says whether it likes the directions of cell k. -/
def Likes (g : Nat) (x y z : Int) (p : Nat → Bool) : Prop :=
  ∀ (k : Nat) (A : Option Addr) (n c : Nat) (X : World), (wlZ x y z k).length = n → IntsIn X X.heap.size A (wlZ x y z k) → Calls Try.prog g #[.slice A n c] X (Bl (p k) X)

set_option maxRecDepth 100000 in
theorem cellsWhere_any (g : Nat) (x y z : Int) (p : Nat → Bool) (W : World) (hE : ∀ args w, (callFunc g args).run Try.prog w = .ok (.enter g args) w) (hg : Likes g x y z p) :
    Calls Try.prog 49 #[.agg #[.int .i64 x, .int .i64 y, .int .i64 z], .func (.func g) #[] #[]] W (Ints (clN p (cI x y)) W) := by
  obtain ⟨i0, hi0, hz0, hz1, hz2⟩ := info_parts info_int
  have HC := Lib.hid (fun X => cellsI x y X)
  have HWs := Lib.hid (fun k X => waysFrom_any x y z k X)
  have HG := Lib.hid hg
  have hN16 := cI_le x y
  have hend : Hid (clN p (cI x y) = clN p (cI x y)) := rfl
  have HX := Lib.hid (fun T => mbox_new x y z W T)
  have HStep : Hid (∀ k : Nat, clN p (k + 1) = if p k = true then clN p k ++ [(k : Int)] else clN p k) := fun k => rfl
  have HLen := Lib.hid (fun k => clN_len p k)
  have HMax := Lib.hid (fun k => cnt_max p k)
  have HW4 := Lib.hid (fun k => wl_len4 x y z k)
  have HK := @Lib.hid _ (fun w' v n base => @ints_mk (clN p (cI x y)) W w' v n base)
  have HBo := Lib.hid (fun T => below_box W (.cells #[.int .i64 x, .int .i64 y, .int .i64 z] T))
  clear hg
  generalize cI x y = N at *
  go_enter Try.func49, Try.ntmps49
  go_wp2_with fail
  refine (HC.out _).mono ?_
  rintro e w1 ⟨rfl, hb⟩
  have hb1 := Lib.hid (below_call (HBo.out _) hb)
  have hx1 := Lib.hid ((HX.out _).call hb)
  have hsz := hb.size
  simp only [World.size_alloc] at hsz
  clear hb HX HBo
  go_wp2_with fail
  go_loopw [5, 10] (fun u5 u10 wr => ∃ k : Nat, k ≤ N ∧ u10 = .int .i64 k ∧ OL W (W.heap.size + 1) (clN p k) u5 wr ∧ MBox W.heap.size x y z wr) (fun _ u10 _ => N - (intOf u10).toNat)
  case atStart => exact ⟨0, Nat.zero_le _, rfl, ol_nil hb1.out (by omega) hsz, hx1.out⟩
  case round =>
    clear hb1 hx1 hsz
    obtain ⟨k, hk, rfl, hol0, hx0⟩ := hrel
    have hol := Lib.hid hol0
    have hx := Lib.hid hx0
    obtain ⟨A3, c3, rfl⟩ := hol0.form
    have hll : (clN p k).length ≤ 16 := by have := HLen.out k; have := HMax.out k; omega
    obtain ⟨m0, m1, m2⟩ := hx0.1
    clear hol0 hx0
    have HS1 := Lib.hid (HStep.out k)
    have HW1 := Lib.hid (HWs.out k)
    have h4 := HW4.out k
    by_cases hkN : k < N
    · have hd : decide ((k : Int) < (N : Int)) = true := by simp; omega
      go_wp2_with fail
      refine (HW1.out _).mono ?_
      rintro e w3 ⟨vw, rfl, ho, hb⟩
      have hol3 := Lib.hid (hol.out.call hb)
      have hx3 := Lib.hid (hx.out.call hb)
      obtain ⟨Aw, cw, rfl⟩ := own_form ho
      obtain ⟨hin, -⟩ := ints_own ho
      have HG1 := Lib.hid (HG.out k Aw _ cw w3 rfl hin)
      clear hb ho hol hx hin m0 m1 m2 HStep HLen HMax HW4
      generalize (wlZ x y z k).length = n at *
      go_wp2_with fail
      refine HG1.out.mono ?_
      rintro e w4 ⟨rfl, hb⟩
      have hol4 := Lib.hid (hol3.out.call hb)
      have hx4 := Lib.hid (hx3.out.call hb)
      have hbz := hol4.out.2.2.1
      clear hb hol3 hx3 HG1
      generalize p k = bp at *
      generalize hL : clN p k = L at *
      cases bp with
      | true =>
        have hS2 := HS1.out
        rw [if_pos rfl] at hS2
        have HS2 := Lib.hid hS2
        clear hS2 HS1
        go_wp2_with (at_builtin; refine wpList_append_lies _ rfl (.tmp 18) (.tmp 20) 32 rfl (W.heap.size + 1) 3 i0 _ 1 8 Try.underlying32 hi0 hz0 hz1 hz2 rfl (by omega) _ (L.length) _ rfl (hol4.out.2.2.2.alloc _) ⟨w4.heap.size, 0, none⟩ 1 1 (icells [(k : Int)]) rfl rfl (news_eqI rfl (heap_alloc_new w4 _)) (oneCellI _) (by omega) (by unfold maxLen; omega) (by omega) (by simp; omega) (w4.heap.size + 1) (by simp) ?_; intro gg cap w3 hown' hgrow hat hlt2; clear hlt2; have HAt := Lib.hid hat; clear hat)
        have hn2 := hol4.out.app hown' hgrow
        go_roundw
        case rel => exact ⟨k + 1, by omega, by go_num, by rw [HS2.out]; exact hn2.1, mbox_keep hx4.out (Nat.lt_succ_self _) hn2.2⟩
        case measure => simp [intOf]; omega
      | false =>
        have hS2 := HS1.out
        rw [if_neg (by simp)] at hS2
        have HS2 := Lib.hid hS2
        clear hS2 HS1
        go_wp2_with fail
        go_roundw
        case rel => exact ⟨k + 1, by omega, by go_num, by rw [HS2.out]; exact hol4.out, hx4.out⟩
        case measure => simp [intOf]; omega
    · obtain rfl : k = N := by omega
      have hd : decide ((k : Int) < (k : Int)) = false := by simp
      clear HS1 hll
      go_wp2_with fail
      go_ret
      exact HK.out _ _ _ _ rfl hol.out.2.2.2 hol.out.2.1 hol.out.1

theorem deadEnds_likes (x y z : Int) : Likes 50 x y z (deB x y z) := fun k A n c X hn hi => by
  have hd : (((n : Nat) : Int) == 1) = deB x y z k := by unfold deB; rw [Bool.eq_iff_iff]; simp <;> omega
  have HK := @Lib.hid _ (fun w' b => @bl_mk (((n : Nat) : Int) == 1) (deB x y z k) X w' hd b)
  have HB := Lib.hid (Below.refl X.heap.size X)
  clear hi hd hn
  go_enter Try.func50, Try.ntmps50
  go_wp2_with fail
  go_ret
  exact HK.out _ HB.out

theorem junctions_likes (x y z : Int) : Likes 51 x y z (jnB x y z) := fun k A n c X hn hi => by
  have hd : decide (3 ≤ ((n : Nat) : Int)) = jnB x y z k := by unfold jnB; rw [Bool.eq_iff_iff]; simp <;> omega
  have HK := @Lib.hid _ (fun w' b => @bl_mk (decide (3 ≤ ((n : Nat) : Int))) (jnB x y z k) X w' hd b)
  have HB := Lib.hid (Below.refl X.heap.size X)
  clear hi hd hn
  go_enter Try.func51, Try.ntmps51
  go_wp2_with fail
  go_ret
  exact HK.out _ HB.out

theorem deadEnds_list (x y z : Int) : clN (deB x y z) (cI x y) = deL x y z := cl_all (fun _ => rfl) fun h k => by unfold deB; rw [wl_bad h]; rfl
theorem deadEnds_any (x y z : Int) (W : World) :
    Calls Try.prog 15 #[.agg #[.int .i64 x, .int .i64 y, .int .i64 z]] W (Ints (deL x y z) W) := by
  have HC := Lib.hid (fun X => cellsWhere_any 50 x y z (deB x y z) X Try.call50 (deadEnds_likes x y z))
  rw [deadEnds_list] at HC
  have HBo := Lib.hid (fun T => below_box W (.cells #[.int .i64 x, .int .i64 y, .int .i64 z] T))
  have HK := @Lib.hid _ (fun w' v n base => @ints_mk (deL x y z) W w' v n base)
  go_enter Try.func15, Try.ntmps15
  go_wp2_with fail
  refine (HC.out _).mono ?_
  rintro e w1 ⟨v, rfl, ho, hb⟩
  have hsz : W.heap.size ≤ (W.alloc (.cells #[.int .i64 x, .int .i64 y, .int .i64 z] 27)).heap.size := by simp
  have HO := Lib.hid (own_base ho hsz)
  have hb1 := Lib.hid (below_call (HBo.out _) hb)
  obtain ⟨A1, c1, rfl⟩ := own_form ho
  clear ho hb HBo HC
  go_wp2_with fail
  go_ret
  exact HK.out _ _ _ _ rfl HO.out (Nat.le_refl _) hb1.out

theorem junctions_list (x y z : Int) : clN (jnB x y z) (cI x y) = jnL x y z := cl_all (fun _ => rfl) fun h k => by unfold jnB; rw [wl_bad h]; rfl
theorem junctions_any (x y z : Int) (W : World) :
    Calls Try.prog 17 #[.agg #[.int .i64 x, .int .i64 y, .int .i64 z]] W (Ints (jnL x y z) W) := by
  have HC := Lib.hid (fun X => cellsWhere_any 51 x y z (jnB x y z) X Try.call51 (junctions_likes x y z))
  rw [junctions_list] at HC
  have HBo := Lib.hid (fun T => below_box W (.cells #[.int .i64 x, .int .i64 y, .int .i64 z] T))
  have HK := @Lib.hid _ (fun w' v n base => @ints_mk (jnL x y z) W w' v n base)
  go_enter Try.func17, Try.ntmps17
  go_wp2_with fail
  refine (HC.out _).mono ?_
  rintro e w1 ⟨v, rfl, ho, hb⟩
  have hsz : W.heap.size ≤ (W.alloc (.cells #[.int .i64 x, .int .i64 y, .int .i64 z] 27)).heap.size := by simp
  have HO := Lib.hid (own_base ho hsz)
  have hb1 := Lib.hid (below_call (HBo.out _) hb)
  obtain ⟨A1, c1, rfl⟩ := own_form ho
  clear ho hb HBo HC
  go_wp2_with fail
  go_ret
  exact HK.out _ _ _ _ rfl HO.out (Nat.le_refl _) hb1.out

/-- Two directions that ascend are opposite just if they lie two apart. -/
theorem opp_is {u v : Int} (hu : 0 ≤ u) (huv : u < v) (hv : v < 4) : (v == trZ (trZ u)) = decide (v - u = 2) := by
  rw [gridQ.trz_two u hu (by omega), Bool.eq_iff_iff, beq_iff_eq, decide_eq_true_iff]
  omega
set_option maxRecDepth 100000 in
theorem countStraight_likes (x y z : Int) : Likes 54 x y z (csB x y z) := fun k A n c X hn hi => by
  have hcs : csB x y z k = decide ((wlZ x y z k).length = 2 ∧ (wlZ x y z k).getD 1 0 - (wlZ x y z k).getD 0 0 = 2) := rfl
  have hmem := wl_dirs x y z k 4
  have hasc := wl_asc x y z k 4
  rw [show wlN x y z k 4 = wlZ x y z k from rfl] at hmem hasc
  have HT := Lib.hid (fun d X => gridI.turnRight_any d X)
  generalize csB x y z k = bc at *
  generalize wlZ x y z k = l at *
  by_cases h2 : l.length = 2
  · obtain ⟨u, v, rfl⟩ : ∃ u v, l = [u, v] := by
      rcases l with _ | ⟨u, _ | ⟨v, _ | ⟨_, _⟩⟩⟩
      · simp at h2
      · simp at h2
      · exact ⟨u, v, rfl⟩
      · simp at h2
    have hu := hmem u (by simp)
    have hv := hmem v (by simp)
    have huv : u < v := by simpa using hasc
    obtain rfl : n = 2 := hn.symm
    obtain ⟨ad, rfl, -, hc0⟩ := ints_cell hi (j := 0) (u := u) rfl
    obtain ⟨ad', hae, -, hc1⟩ := ints_cell hi (j := 1) (u := v) rfl
    cases hae
    replace hc0 : X.cell? ad = some (.int .i64 u) := by rw [← Addr.add_zero' ad]; exact hc0
    replace hc1 : X.cell? { block := ad.block, off := ad.off + 1 } = some (.int .i64 v) := hc1
    have he : (v == trZ (trZ u)) = bc := by rw [opp_is hu.1 huv hv.2, hcs]; simp
    have HK := @Lib.hid _ (fun w' b => @bl_mk (v == trZ (trZ u)) bc X w' he b)
    have HB := Lib.hid (Below.refl X.heap.size X)
    clear he hmem hasc hcs hu hv huv hi h2 hn
    go_enter Try.func54, Try.ntmps54
    go_wp2_with fail
    try simp only [List.cons_append, List.nil_append, List.append_eq]
    refine wp_region_held_drew (S := (fun w' => w'.cell? ad = some (.int .i64 u) ∧ w'.cell? { block := ad.block, off := ad.off + 1 } = some (.int .i64 v))) (by kernel_rfl) ?_ (fun hHeld0 => ?_)
    · (try dsimp only); go_keep
    refine wpAnyH_take (i := 0) (oi := { dst := some 3, op := Go.Op.move (Go.Operand.tmp 0), type := 32, pos := "l07_dead.go:24", after := #[], guard := none }) (v := ?_) rfl (by kernel_rfl) (by kernel_rfl) (by kernel_rfl) (fun _ _ _ h => h) (Or.inl ⟨by rfl, ?_⟩) (by assumption) ?_
    rotate_left
    · (intro w hSw; (try dsimp only at hSw); go_simp; try with_reducible rfl)
    try simp only [Act.put, List.setIfInBounds_toArray, List.set_cons_zero, List.set_cons_succ]
    refine wpAnyH_take (i := 1) (oi := { dst := some 4, op := Go.Op.call { callee := Go.Callee.builtin Go.Builtin.len, args := #[Go.Operand.tmp 3], argTypes := #[32] }, type := 3, pos := "l07_dead.go:24", after := #[{ on := 0, ground := Go.Ground.data }], guard := none }) (v := ?_) rfl (by kernel_rfl) (by kernel_rfl) (by kernel_rfl) (fun _ _ _ h => h) (Or.inl ⟨by rfl, ?_⟩) (by assumption) ?_
    rotate_left
    · (intro w hSw; (try dsimp only at hSw); go_simp; try with_reducible rfl)
    try simp only [Act.put, List.setIfInBounds_toArray, List.set_cons_zero, List.set_cons_succ]
    refine wpAnyH_take (i := 2) (oi := { dst := some 5, op := Go.Op.binOp Go.BinOp.eql 3 (Go.Operand.tmp 4) (Go.Operand.const (Go.Value.int Go.IntKind.i64 2)) 3, type := 4, pos := "l07_dead.go:24", after := #[{ on := 1, ground := Go.Ground.data }], guard := none }) (v := ?_) rfl (by kernel_rfl) (by kernel_rfl) (by kernel_rfl) (fun _ _ _ h => h) (Or.inl ⟨by rfl, ?_⟩) (by assumption) ?_
    rotate_left
    · (intro w hSw; (try dsimp only at hSw); go_simp; try with_reducible rfl)
    try simp only [Act.put, List.setIfInBounds_toArray, List.set_cons_zero, List.set_cons_succ]
    refine wpAnyH_take (i := 3) (oi := { dst := some 6, op := Go.Op.move (Go.Operand.tmp 5), type := 4, pos := "l07_dead.go:24", after := #[{ on := 2, ground := Go.Ground.data }], guard := none }) (v := ?_) rfl (by kernel_rfl) (by kernel_rfl) (by kernel_rfl) (fun _ _ _ h => h) (Or.inl ⟨by rfl, ?_⟩) (by assumption) ?_
    rotate_left
    · (intro w hSw; (try dsimp only at hSw); go_simp; try with_reducible rfl)
    try simp only [Act.put, List.setIfInBounds_toArray, List.set_cons_zero, List.set_cons_succ]
    refine wpAnyH_take (i := 4) (oi := { dst := some 7, op := Go.Op.move (Go.Operand.tmp 0), type := 32, pos := "l07_dead.go:24", after := #[{ on := 3, ground := Go.Ground.guard }], guard := some (3, true) }) (v := ?_) rfl (by kernel_rfl) (by kernel_rfl) (by kernel_rfl) (fun _ _ _ h => h) (Or.inl ⟨by rfl, ?_⟩) (by assumption) ?_
    rotate_left
    · (intro w hSw; (try dsimp only at hSw); go_simp; try with_reducible rfl)
    try simp only [Act.put, List.setIfInBounds_toArray, List.set_cons_zero, List.set_cons_succ]
    refine wpAnyH_take (i := 5) (oi := { dst := some 8, op := Go.Op.indexAddr 32 (Go.Operand.tmp 7) (Go.Operand.const (Go.Value.int Go.IntKind.i64 1)), type := 0, pos := "l07_dead.go:24", after := #[{ on := 4, ground := Go.Ground.data }, { on := 3, ground := Go.Ground.guard }], guard := some (3, true) }) (v := ?_) rfl (by kernel_rfl) (by kernel_rfl) (by kernel_rfl) (fun _ _ _ h => h) (Or.inl ⟨by rfl, ?_⟩) (by assumption) ?_
    rotate_left
    · (intro w hSw; (try dsimp only at hSw); go_simp; try with_reducible rfl)
    try simp only [Act.put, List.setIfInBounds_toArray, List.set_cons_zero, List.set_cons_succ]
    refine wpAnyH_take (i := 6) (oi := { dst := some 9, op := Go.Op.load 3 (Go.Operand.tmp 8), type := 3, pos := "l07_dead.go:24", after := #[{ on := 5, ground := Go.Ground.data }, { on := 3, ground := Go.Ground.guard }], guard := some (3, true) }) (v := ?_) rfl (by kernel_rfl) (by kernel_rfl) (by kernel_rfl) (fun _ _ _ h => h) (Or.inl ⟨by rfl, ?_⟩) (by assumption) ?_
    rotate_left
    · (intro w hSw; (try dsimp only at hSw); go_simp; try with_reducible rfl)
    try simp only [Act.put, List.setIfInBounds_toArray, List.set_cons_zero, List.set_cons_succ]
    refine wpAnyH_take (i := 7) (oi := { dst := some 10, op := Go.Op.move (Go.Operand.tmp 0), type := 32, pos := "l07_dead.go:24", after := #[{ on := 3, ground := Go.Ground.guard }], guard := some (3, true) }) (v := ?_) rfl (by kernel_rfl) (by kernel_rfl) (by kernel_rfl) (fun _ _ _ h => h) (Or.inl ⟨by rfl, ?_⟩) (by assumption) ?_
    rotate_left
    · (intro w hSw; (try dsimp only at hSw); go_simp; try with_reducible rfl)
    try simp only [Act.put, List.setIfInBounds_toArray, List.set_cons_zero, List.set_cons_succ]
    refine wpAnyH_take (i := 8) (oi := { dst := some 11, op := Go.Op.indexAddr 32 (Go.Operand.tmp 10) (Go.Operand.const (Go.Value.int Go.IntKind.i64 0)), type := 0, pos := "l07_dead.go:24", after := #[{ on := 7, ground := Go.Ground.data }, { on := 3, ground := Go.Ground.guard }], guard := some (3, true) }) (v := ?_) rfl (by kernel_rfl) (by kernel_rfl) (by kernel_rfl) (fun _ _ _ h => h) (Or.inl ⟨by rfl, ?_⟩) (by assumption) ?_
    rotate_left
    · (intro w hSw; (try dsimp only at hSw); go_simp; try with_reducible rfl)
    try simp only [Act.put, List.setIfInBounds_toArray, List.set_cons_zero, List.set_cons_succ]
    refine wpAnyH_take (i := 9) (oi := { dst := some 12, op := Go.Op.load 3 (Go.Operand.tmp 11), type := 3, pos := "l07_dead.go:24", after := #[{ on := 8, ground := Go.Ground.data }, { on := 3, ground := Go.Ground.guard }], guard := some (3, true) }) (v := ?_) rfl (by kernel_rfl) (by kernel_rfl) (by kernel_rfl) (fun _ _ _ h => h) (Or.inl ⟨by rfl, ?_⟩) (by assumption) ?_
    rotate_left
    · (intro w hSw; (try dsimp only at hSw); go_simp; try with_reducible rfl)
    try simp only [Act.put, List.setIfInBounds_toArray, List.set_cons_zero, List.set_cons_succ]
    refine wpAnyH_ready (rs := [10]) (by kernel_rfl) (by simp) ?_
    refine AllReadyH.cons (o := { dst := some 13, op := Go.Op.call { callee := Go.Callee.value (Go.Operand.func 55), args := #[Go.Operand.tmp 12], argTypes := #[3] }, type := 3, pos := "l07_dead.go:24", after := #[{ on := 9, ground := Go.Ground.data }, { on := 3, ground := Go.Ground.chain }, { on := 3, ground := Go.Ground.guard }], guard := some (3, true) }) rfl (fun K10 hK10 => ?_) AllReadyH.nil
    go_simp
    (refine (HT.out _ _).mono ?_; rintro e v1 ⟨rfl, rfl⟩)
    go_wp2_with fail
    refine hK10.out _ _ ?_ (fun hHeld1 => ?_)
    · (try dsimp only); go_keep
    clear hK10 K10 hHeld0
    try simp only [Act.put, List.setIfInBounds_toArray, List.set_cons_zero, List.set_cons_succ]
    refine wpAnyH_ready (rs := [11]) (by kernel_rfl) (by simp) ?_
    refine AllReadyH.cons (o := { dst := some 14, op := Go.Op.call { callee := Go.Callee.value (Go.Operand.func 55), args := #[Go.Operand.tmp 13], argTypes := #[3] }, type := 3, pos := "l07_dead.go:24", after := #[{ on := 10, ground := Go.Ground.data }, { on := 10, ground := Go.Ground.chain }, { on := 3, ground := Go.Ground.guard }], guard := some (3, true) }) rfl (fun K11 hK11 => ?_) AllReadyH.nil
    go_simp
    (refine (HT.out _ _).mono ?_; rintro e v2 ⟨rfl, rfl⟩)
    go_wp2_with fail
    refine hK11.out _ _ ?_ (fun hHeld2 => ?_)
    · (try dsimp only); go_keep
    clear hK11 K11 hHeld1
    try simp only [Act.put, List.setIfInBounds_toArray, List.set_cons_zero, List.set_cons_succ]
    refine wpAnyH_take (i := 12) (oi := { dst := some 15, op := Go.Op.binOp Go.BinOp.eql 3 (Go.Operand.tmp 9) (Go.Operand.tmp 14) 3, type := 4, pos := "l07_dead.go:24", after := #[{ on := 6, ground := Go.Ground.data }, { on := 11, ground := Go.Ground.data }, { on := 3, ground := Go.Ground.guard }], guard := some (3, true) }) (v := ?_) rfl (by kernel_rfl) (by kernel_rfl) (by kernel_rfl) (fun _ _ _ h => h) (Or.inl ⟨by rfl, ?_⟩) (by assumption) ?_
    rotate_left
    · (intro w hSw; (try dsimp only at hSw); go_simp; try with_reducible rfl)
    try simp only [Act.put, List.setIfInBounds_toArray, List.set_cons_zero, List.set_cons_succ]
    refine wpAnyH_take (i := 13) (oi := { dst := some 16, op := Go.Op.pick (Go.Operand.tmp 6) (Go.Operand.tmp 15) (Go.Operand.const (Go.Value.bool false)), type := 4, pos := "l07_dead.go:24", after := #[{ on := 3, ground := Go.Ground.data }, { on := 12, ground := Go.Ground.data }], guard := none }) (v := ?_) rfl (by kernel_rfl) (by kernel_rfl) (by kernel_rfl) (fun _ _ _ h => h) (Or.inl ⟨by rfl, ?_⟩) (by assumption) ?_
    rotate_left
    · (intro w hSw; (try dsimp only at hSw); go_simp; try with_reducible rfl)
    try simp only [Act.put, List.setIfInBounds_toArray, List.set_cons_zero, List.set_cons_succ]
    refine wpAnyH_take (i := 14) (oi := { dst := some 2, op := Go.Op.assign (Go.Operand.tmp 16), type := 4, pos := "l07_dead.go:24", after := #[{ on := 13, ground := Go.Ground.data }, { on := 11, ground := Go.Ground.chain }, { on := 0, ground := Go.Ground.phase }, { on := 1, ground := Go.Ground.phase }, { on := 2, ground := Go.Ground.phase }, { on := 3, ground := Go.Ground.phase }, { on := 4, ground := Go.Ground.phase }, { on := 5, ground := Go.Ground.phase }, { on := 6, ground := Go.Ground.phase }, { on := 7, ground := Go.Ground.phase }, { on := 8, ground := Go.Ground.phase }, { on := 9, ground := Go.Ground.phase }, { on := 10, ground := Go.Ground.phase }, { on := 11, ground := Go.Ground.phase }, { on := 12, ground := Go.Ground.phase }, { on := 13, ground := Go.Ground.phase }], guard := none }) (v := ?_) rfl (by kernel_rfl) (by kernel_rfl) (by kernel_rfl) (fun _ _ _ h => h) (Or.inl ⟨by rfl, ?_⟩) (by assumption) ?_
    rotate_left
    · (intro w hSw; (try dsimp only at hSw); go_simp; try with_reducible rfl)
    try simp only [Act.put, List.setIfInBounds_toArray, List.set_cons_zero, List.set_cons_succ]
    refine wpAnyH_done (by kernel_rfl) ?_ _
    all_goals go_wp2_with fail
    all_goals go_ret
    all_goals exact HK.out _ (below_dr HB.out)
  · have he : false = bc := by rw [hcs, decide_eq_false (fun h => h2 h.1)]
    have HK := @Lib.hid _ (fun w' b => @bl_mk false bc X w' he b)
    have HB := Lib.hid (Below.refl X.heap.size X)
    have hd : ((n : Int) == 2) = false := by simp; omega
    clear he hmem hasc hcs hi
    go_enter Try.func54, Try.ntmps54
    go_wp2_with fail
    go_quiet (fail)
    go_wp2_with fail
    go_ret
    exact HK.out _ (below_draws HB.out _)

theorem countStraight_any (x y z : Int) (W : World) :
    Calls Try.prog 20 #[.agg #[.int .i64 x, .int .i64 y, .int .i64 z]] W (Nm (csZ x y z) W) := by
  have HC := Lib.hid (fun X => cellsWhere_any 54 x y z (csB x y z) X Try.call54 (countStraight_likes x y z))
  have hl : (clN (csB x y z) (cI x y)).length ≤ 16 := by
    have := clN_len (csB x y z) (cI x y); have := cnt_max (csB x y z) (cI x y); have := cI_le x y; omega
  have he : (((clN (csB x y z) (cI x y)).length : Nat) : Int) = csZ x y z := by
    rw [cl_all (q := csB x y z) (fun _ => rfl) fun h k => by unfold csB; rw [wl_bad h]; rfl]
    unfold csZ
    split
    · rw [clN_len]
    · rfl
  have HBo := Lib.hid (fun T => below_box W (.cells #[.int .i64 x, .int .i64 y, .int .i64 z] T))
  have HK := @Lib.hid _ (fun w' b => @nm_mk (((clN (csB x y z) (cI x y)).length : Nat) : Int) (csZ x y z) W w' he b)
  clear he
  generalize clN (csB x y z) (cI x y) = l at *
  go_enter Try.func20, Try.ntmps20
  go_wp2_with fail
  refine (HC.out _).mono ?_
  rintro e w1 ⟨v, rfl, ho, hb⟩
  have hb1 := Lib.hid (below_call (HBo.out _) hb)
  obtain ⟨A1, c1, rfl⟩ := own_form ho
  clear ho hb HBo HC
  go_wp2_with fail
  go_ret
  exact HK.out _ hb1.out

theorem bs_bdI (x y z : Int) : ∀ k : Nat, -(2 * (k : Int)) ≤ bsN x y z k ∧ bsN x y z k ≤ 4 * (k : Int)
  | 0 => by simp [bsN]
  | k + 1 => by
    have h := bs_bdI x y z k
    have h4 := wl_len4 x y z k
    unfold bsN
    split <;> omega
theorem bs_bad {x y z : Int} (h : ¬ OkM x y z) : ∀ k : Nat, bsN x y z k = 0
  | 0 => rfl
  | k + 1 => by unfold bsN; rw [bs_bad h k, wl_bad h]; simp
set_option maxRecDepth 100000 in
theorem branchSum_any (x y z : Int) (W : World) :
    Calls Try.prog 14 #[.agg #[.int .i64 x, .int .i64 y, .int .i64 z]] W (Nm (bsZ x y z) W) := by
  have HC := Lib.hid (fun X => cellsI x y X)
  have HWs := Lib.hid (fun k X => waysFrom_any x y z k X)
  have he : bsN x y z (cI x y) = bsZ x y z := by
    unfold bsZ; split
    · rename_i h; unfold cI; rw [if_pos (show OkZ x y from h.1)]
    · rename_i h; exact bs_bad h _
  have HK := @Lib.hid _ (fun w' b => @nm_mk (bsN x y z (cI x y)) (bsZ x y z) W w' he b)
  have HX := Lib.hid (fun T => mbox_new x y z W T)
  have HBo := Lib.hid (fun T => below_box W (.cells #[.int .i64 x, .int .i64 y, .int .i64 z] T))
  have hN16 := cI_le x y
  have HW4 := Lib.hid (fun k => wl_len4 x y z k)
  have HSt : Hid (∀ k : Nat, bsN x y z (k + 1) = bsN x y z k + if 0 < (wlZ x y z k).length then ((wlZ x y z k).length : Int) - 2 else 0) := fun k => rfl
  have HBd := Lib.hid (fun k => bs_bdI x y z k)
  clear he
  generalize cI x y = N at *
  go_enter Try.func14, Try.ntmps14
  go_wp2_with fail
  refine (HC.out _).mono ?_
  rintro e w1 ⟨rfl, hb⟩
  have hb1 := Lib.hid (below_call (HBo.out _) hb)
  have hx1 := Lib.hid ((HX.out _).call hb)
  clear hb HX HBo
  go_wp2_with fail
  go_loopw [3, 9] (fun u3 u9 wr => ∃ k : Nat, k ≤ N ∧ u9 = .int .i64 k ∧ u3 = .int .i64 (bsN x y z k) ∧ Below W.heap.size W wr ∧ MBox W.heap.size x y z wr) (fun _ u9 _ => N - (intOf u9).toNat)
  case atStart => exact ⟨0, Nat.zero_le _, rfl, rfl, hb1.out, hx1.out⟩
  case round =>
    clear hb1 hx1
    obtain ⟨k, hk, rfl, rfl, hb0, hx0⟩ := hrel
    have hbl := Lib.hid hb0
    have hx := Lib.hid hx0
    obtain ⟨m0, m1, m2⟩ := hx0.1
    clear hb0 hx0
    have HW1 := Lib.hid (HWs.out k)
    have h4 := HW4.out k
    by_cases hkN : k < N
    · have hd : decide ((k : Int) < (N : Int)) = true := by simp; omega
      go_wp2_with fail
      refine (HW1.out _).mono ?_
      rintro e w3 ⟨vw, rfl, ho, hb⟩
      have hbl3 := Lib.hid (below_call hbl.out hb)
      have hx3 := Lib.hid (hx.out.call hb)
      clear hb hbl hx m0 m1 m2
      obtain ⟨Aw, cw, rfl⟩ := own_form ho
      have hS := HSt.out k
      have hbd := HBd.out k
      clear ho HSt HBd HW4
      generalize bsN x y z k = s at *
      generalize hs' : bsN x y z (k + 1) = s' at *
      generalize (wlZ x y z k).length = n at *
      have q1 : IntKind.i64.wrap ((n : Int) - 2) = (n : Int) - 2 := IntWalk.i64_in _ (by omega)
      have q2 : IntKind.i64.wrap (s + ((n : Int) - 2)) = s + ((n : Int) - 2) := IntWalk.i64_in _ (by omega)
      by_cases hn : 0 < n
      · have hc : decide ((0 : Int) < (n : Int)) = true := by simp; omega
        have hc2 : decide (0 < n) = true := decide_eq_true hn
        have HS2 : Hid (s' = s + ((n : Int) - 2)) := Lib.hid (by rw [hS, if_pos hn])
        clear hS
        go_wp2_with fail
        go_roundw
        case rel => exact ⟨k + 1, by omega, by go_num, by rw [hs', HS2.out], hbl3.out, hx3.out⟩
        case measure => simp [intOf]; omega
      · have hc : decide ((0 : Int) < (n : Int)) = false := by simp; omega
        have hc2 : decide (0 < n) = false := decide_eq_false hn
        have HS2 : Hid (s' = s) := Lib.hid (by rw [hS, if_neg hn]; omega)
        clear hS
        go_wp2_with fail
        go_roundw
        case rel => exact ⟨k + 1, by omega, by go_num, by rw [hs', HS2.out], hbl3.out, hx3.out⟩
        case measure => simp [intOf]; omega
    · obtain rfl : k = N := by omega
      have hd : decide ((k : Int) < (k : Int)) = false := by simp
      go_wp2_with fail
      go_ret
      exact HK.out _ hbl.out

/-- A closure says whether it likes an integer, in every world that goes on from W. -/
def LikesI (g : Nat) (cb : Array Value) (W : World) (p : Int → Bool) : Prop :=
  ∀ (u : Int) (X : World), Below W.heap.size W X → Calls Try.prog g (#[.int .i64 u] ++ cb) X (Bl (p u) X)
theorem if_mk {b : Bool} {v : Int} {W w' : World} (h : decide (0 ≤ v) = b) (h1 : -1 ≤ v) (h2 : v ≤ 1048576) (hb : Below W.heap.size W w') :
    ∃ u : Int, Ending.returned (.int .i64 v) = .returned (.int .i64 u) ∧ decide (0 ≤ u) = b ∧ (-1 ≤ u ∧ u ≤ 1048576) ∧ Below W.heap.size W w' := ⟨v, rfl, h, ⟨h1, h2⟩, hb⟩
set_option maxRecDepth 100000 in
theorem indexFunc_any (g : Nat) (cb : Array Value) (p : Int → Bool) (A : Option Addr) (n c : Nat) (l : List Int) (W : World) (hE : ∀ args w, (callFunc g args).run Try.prog w = .ok (.enter g args) w) (hg : LikesI g cb W p) (hn : l.length = n) (hm : n ≤ 1048576) (hi : IntsIn W W.heap.size A l) :
    Calls Try.prog 104 #[.slice A n c, .func (.func g) #[] cb] W fun e w' => ∃ u : Int, e = .returned (.int .i64 u) ∧ decide (0 ≤ u) = l.any p ∧ (-1 ≤ u ∧ u ≤ 1048576) ∧ Below W.heap.size W w' := by
  have HG := Lib.hid hg
  have HI := Lib.hid hi
  have Hn := Lib.hid hn
  have HR := Lib.hid (Below.refl W.heap.size W)
  have HK := @Lib.hid _ (fun v w' => @if_mk (l.any p) v W w')
  clear hg hi hn
  go_enter Try.func104, Try.ntmps104
  go_wp2_with fail
  go_loopw [8] (fun u8 wr => ∃ k : Nat, k ≤ n ∧ u8 = .int .i64 k ∧ (∀ j d, j < k → l[j]? = some d → p d = false) ∧ Below W.heap.size W wr) (fun u8 _ => n - (intOf u8).toNat)
  case atStart => exact ⟨0, Nat.zero_le _, rfl, fun j d hj => absurd hj (by omega), HR.out⟩
  case round =>
    obtain ⟨k, hk, rfl, hin, hb0⟩ := hrel
    have HIn := Lib.hid hin
    have hbl := Lib.hid hb0
    clear hin hb0
    by_cases hkn : k < n
    · obtain ⟨v, hv, hmem⟩ : ∃ v, l[k]? = some v ∧ v ∈ l := by
        have hkl : k < l.length := by have := Hn.out; omega
        exact ⟨l[k], List.getElem?_eq_getElem hkl, List.getElem_mem hkl⟩
      obtain ⟨ad, rfl, hab, hcell⟩ := ints_cell (HI.out.below hbl.out) hv
      have hk0 : (0 : Int) ≤ (k : Int) := Int.natCast_nonneg _
      have hk1 : (k : Int) < (n : Int) := by omega
      have hd : decide ((k : Int) < (n : Int)) = true := by simp; omega
      have HG1 := Lib.hid (HG.out v wr hbl.out)
      go_wp2_with fail
      refine HG1.out.mono ?_
      rintro e w1 ⟨rfl, hb⟩
      have hbl1 := Lib.hid (below_call hbl.out hb)
      clear hb HG1
      cases hp : p v with
      | true =>
        have HE : Hid (l.any p = true) := Lib.hid (List.any_eq_true.2 ⟨v, hmem, hp⟩)
        clear hv hmem
        go_wp2_with fail
        go_ret
        exact HK.out _ _ (by rw [HE.out]; simp) (by omega) (by omega) hbl1.out
      | false =>
        have HN : Hid (∀ j d, j < k + 1 → l[j]? = some d → p d = false) := fun j d hj hl => by
          rcases Nat.lt_or_ge j k with h | h
          · exact HIn.out j d h hl
          · obtain rfl : j = k := by omega
            rw [hv] at hl; cases hl; exact hp
        clear hv hmem
        go_wp2_with fail
        go_roundw
        case rel => exact ⟨k + 1, by omega, by go_num, HN.out, hbl1.out⟩
        case measure => simp [intOf]; omega
    · obtain rfl : k = n := by omega
      have hd : decide ((k : Int) < (k : Int)) = false := by simp
      have HE : Hid (l.any p = false) := Lib.hid (by
        rw [← Bool.not_eq_true, List.any_eq_true]
        rintro ⟨v, hv, hp⟩
        obtain ⟨j, hj⟩ := List.getElem?_of_mem hv
        have := (List.getElem?_eq_some_iff.1 hj).1
        rw [HIn.out j v (by have := Hn.out; omega) hj] at hp; cases hp)
      go_wp2_with fail
      go_ret
      exact HK.out _ _ (by rw [HE.out]; simp) (by omega) (by omega) hbl.out
theorem containsFunc_any (g : Nat) (cb : Array Value) (p : Int → Bool) (A : Option Addr) (n c : Nat) (l : List Int) (W : World) (hE : ∀ args w, (callFunc g args).run Try.prog w = .ok (.enter g args) w) (hg : LikesI g cb W p) (hn : l.length = n) (hm : n ≤ 1048576) (hi : IntsIn W W.heap.size A l) :
    Calls Try.prog 80 #[.slice A n c, .func (.func g) #[] cb] W (Bl (l.any p) W) := by
  have HC := Lib.hid (indexFunc_any g cb p A n c l W hE hg hn hm hi)
  generalize l.any p = b at *
  clear hg hi hn
  go_enter Try.func80, Try.ntmps80
  go_wp2_with fail
  refine HC.out.mono ?_
  rintro e w1 ⟨u, rfl, hu, hu2, hb⟩
  have HK := Lib.hid (bl_mk (rfl : b = b) hb)
  clear hb HC
  go_wp2_with fail
  go_ret
  exact HK.out

set_option maxRecDepth 100000 in
/-- The first dead end that is not kept. -/
theorem firstDeadEnd_any (x y z : Int) (b n : Nat) (K : List Int) (W : World) (hs : SetR b n K W) :
    Calls Try.prog 44 #[.agg #[.int .i64 x, .int .i64 y, .int .i64 z], .map (some b)] W (Nm (atZ x y z K) W) := by
  have HD := Lib.hid (fun X => deadEnds_any x y z X)
  have hln := de_len x y z
  have hat : fsZ K (deL x y z) = atZ x y z K := rfl
  have hrg : ∀ u ∈ deL x y z, -9223372036854775808 ≤ u ∧ u ≤ 9223372036854775807 := fun u hu => by
    unfold deL at hu
    split at hu
    · rename_i h
      obtain ⟨c, rfl, hc, -⟩ := (clN_mem _ _ _).1 hu
      have := (nn3 h.1).2.2
      omega
    · cases hu
  have HRg := Lib.hid hrg
  have HBo := Lib.hid (fun T => below_box W (.cells #[.int .i64 x, .int .i64 y, .int .i64 z] T))
  have HS := Lib.hid (fun T => SetR.call hs (below_box W (.cells #[.int .i64 x, .int .i64 y, .int .i64 z] T)))
  have HK := @Lib.hid _ (fun v w' h => @nm_mk v (atZ x y z K) W w' h)
  have HAt := Lib.hid hat
  clear hs hrg hat
  generalize atZ x y z K = av at *
  generalize deL x y z = l at *
  go_enter Try.func44, Try.ntmps44
  go_wp2_with fail
  refine (HD.out _).mono ?_
  rintro e w1 ⟨v, rfl, ho, hb⟩
  have hbl1 := Lib.hid (below_call (HBo.out _) hb)
  have hs1 := Lib.hid ((HS.out _).call hb)
  obtain ⟨A1, c1, rfl⟩ := own_form ho
  have hi1 := Lib.hid (ints_own ho).1
  clear ho hb HBo HS HD
  have Hn : Hid (l.length = l.length) := rfl
  go_wp2_with fail
  go_loopw [10] (fun u10 wr => ∃ k : Nat, k ≤ l.length ∧ u10 = .int .i64 k ∧ fsZ K (l.drop k) = av ∧ Below w1.heap.size w1 wr) (fun u10 _ => l.length - (intOf u10).toNat)
  case atStart => exact ⟨0, Nat.zero_le _, rfl, HAt.out, Below.refl _ _⟩
  case round =>
    obtain ⟨k, hk, rfl, hfs, hb0⟩ := hrel
    have hbl := Lib.hid hb0
    have HF := Lib.hid hfs
    clear hfs hb0
    by_cases hkn : k < l.length
    · obtain ⟨u, hu, hmem⟩ : ∃ u, l[k]? = some u ∧ u ∈ l := ⟨l[k], List.getElem?_eq_getElem hkn, List.getElem_mem hkn⟩
      have hdrop : l.drop k = u :: l.drop (k + 1) := by
        obtain ⟨hkl, e⟩ := List.getElem?_eq_some_iff.1 hu
        rw [List.drop_eq_getElem_cons hkl, e]
      obtain ⟨ad, rfl, hab, hcell⟩ := ints_cell (hi1.out.below hbl.out) hu
      have hk0 : (0 : Int) ≤ (k : Int) := Int.natCast_nonneg _
      have hk1 : (k : Int) < (l.length : Int) := by omega
      have hd : decide ((k : Int) < (l.length : Int)) = true := by simp; omega
      have HH := Lib.hid (has_any b n K u wr (hs1.out.call hbl.out) (HRg.out u hmem))
      have HF1 := HF.out
      rw [hdrop, fs_cons] at HF1
      have HF2 := Lib.hid HF1
      clear hu hmem hdrop HF1
      go_wp2_with fail
      refine HH.out.mono ?_
      rintro e w2 ⟨rfl, hb⟩
      have hbl2 := Lib.hid (below_call hbl.out hb)
      clear hb HH
      by_cases huK : u ∈ K
      · rw [decide_eq_true huK]
        have HF3 := HF2.out
        rw [if_pos huK] at HF3
        have HF4 := Lib.hid HF3
        clear HF3 HF2 huK
        go_wp2_with fail
        go_roundw
        case rel => exact ⟨k + 1, by omega, by go_num, HF4.out, hbl2.out⟩
        case measure => simp [intOf]; omega
      · rw [decide_eq_false huK]
        have HF3 := HF2.out
        rw [if_neg huK] at HF3
        have HF4 := Lib.hid HF3
        clear HF3 HF2 huK
        go_wp2_with fail
        go_ret
        exact HK.out _ _ HF4.out (below_call hbl1.out hbl2.out)
    · obtain rfl : k = l.length := by omega
      have hd : decide ((l.length : Int) < (l.length : Int)) = false := by simp
      have HF3 := HF.out
      rw [List.drop_length] at HF3
      have HF4 : Hid (-1 = av) := HF3
      clear HF3
      go_wp2_with fail
      go_ret
      exact HK.out _ _ HF4.out (below_call hbl1.out hbl.out)
end Go.Proofs.Ytcoikcnijaniaaa.deadI
