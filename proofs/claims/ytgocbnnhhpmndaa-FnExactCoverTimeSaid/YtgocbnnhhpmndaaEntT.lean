/- The contracts of the model's time and of its way row by row. -/
import Derived.Test.YtgocbnnhhpmndaaEntO
import Derived.Test.YtgocbnnhhpmndaaErsM
import Derived.Test.YtgocbnnhhpmndaaWayM
namespace Go.Proofs.Ytgocbnnhhpmndaa.entT
open Go.ChangeShapes Go.WideShapes Go.ChangeAt Go.RowKit
open draw gridP gridC gridE bitP mazeP mazeC mazeM mazeR mazeS intsP reachP reachM reachN reachD intA listK wayP ersP ersO ersM entP entO
set_option linter.unusedVariables false

set_option maxRecDepth 100000 in
set_option maxHeartbeats 4000000 in
theorem coverTime_any (x y a : Int) (A : Option Addr) (n c : Nat) (w : List Int) (W : World) (hn : w.length = n) (hm : n ≤ 1048576) (hi : IntsIn W W.heap.size A w) :
    Calls Try.prog 24 #[.agg #[.int .i64 x, .int .i64 y], .int .i64 a, .slice A n c] W (Nm (ctZ x y a w) W) := by
  have HF := Lib.hid (fun X => fullMaze_any x y X)
  have HCo : Hid (∀ X, IntsIn X X.heap.size A w → Calls Try.prog 49 #[.agg #[.int .i64 (fmX x y), .int .i64 (fmY x y), .int .i64 (fmO x y)], .int .i64 a, .slice A n c] X (Ints (twL x y a w) X)) := Lib.hid (fun X h => wayM.cellsOn_any (fmX x y) (fmY x y) (fmO x y) a A n c w X hn hm h)
  have HB := Lib.hid (fun T => below_box W (.cells #[.int .i64 x, .int .i64 y] T))
  have HX := Lib.hid (fun T => box_new x y W T)
  have HI := Lib.hid (fun T => hi.below (below_box W (.cells #[.int .i64 x, .int .i64 y] T)))
  have Hn := Lib.hid hn
  have HK := @Lib.hid _ (fun v w' h => @nm_mk v (ctZ x y a w) W w' h)
  clear hi hn
  generalize fmX x y = fx at *
  generalize fmY x y = fy at *
  generalize fmO x y = fo at *
  go_enter Try.func24, Try.ntmps24
  go_wp2_with fail
  refine (HF.out _).mono ?_
  rintro e w1 ⟨rfl, hb⟩
  have hbl1 := Lib.hid (below_call (HB.out _) hb)
  have hbx1 := Lib.hid ((HX.out _).call hb)
  have hin1 := Lib.hid ((((HI.out _).more (HB.out _).size).below hb).more hb.size)
  have hz1 : W.heap.size + 1 ≤ w1.heap.size := by have := hb.size; simp at this; omega
  clear hb HB HX HI HF
  go_wp2_with fail
  refine (HCo.out _ hin1.out).mono ?_
  rintro e w2 ⟨v2, rfl, ho, hb⟩
  have hbl2 := Lib.hid (below_call hbl1.out hb)
  have hbx2 := Lib.hid (hbx1.out.call hb)
  have ho2 := own_base ho hz1
  clear hb hbl1 hbx1 hin1 HCo ho
  obtain ⟨b0, b1⟩ := hbx2.out.1
  rcases Nat.eq_zero_or_pos (twL x y a w).length with h0 | hpos
  · have hL : twL x y a w = [] := List.eq_nil_of_length_eq_zero h0
    have HE : Hid (-1 = ctZ x y a w) := Lib.hid (ct_none (fun j hj => by rw [hL] at hj; exact absurd hj (by simp))).symm
    rw [hL] at ho2
    obtain ⟨A2, c2, rfl⟩ := own_form ho2
    clear ho2 h0 hL
    go_wp2_with fail
    go_loopw [8, 9] (fun u8 u9 wr => u9 = .int .i64 0 ∧ wr = w2) (fun _ _ _ => 0)
    case atStart => exact ⟨rfl, rfl⟩
    case round =>
      obtain ⟨rfl, rfl⟩ := hrel
      go_wp2_with fail
      go_ret
      exact HK.out _ _ HE.out hbl2.out
  · have htw := tw_pos hpos
    have hok := tw_ok htw
    have hlen := tw_len htw
    have h400 := tw_far htw
    obtain ⟨g, cg, rfl, -, -⟩ := own_some ho2 (by omega)
    obtain ⟨hcap, hcm⟩ := own_cap ho2
    have hblz : Hid (BL W x y g cg (twL x y a w) w2) := Lib.hid ⟨hbl2.out, hbx2.out, ho2⟩
    have HIn := Lib.hid (fun k u c' X (hk : k ≤ (twL x y a w).length) (h : IntsIn X X.heap.size (some ⟨g, 0, none⟩) (twL x y a w)) => in_any (some ⟨g, 0, none⟩) k c' ((twL x y a w).take k) u X (by rw [List.length_take]; omega) (by omega) (ints_take h))
    have HCc : Hid (∀ X, Calls Try.prog 16 #[.agg #[.int .i64 x, .int .i64 y]] X (Nm (x * y) X)) := Lib.hid fun X => gridS.countCells_yes x y X hok.1 hok.2.1 hok.2.2.1 hok.2.2.2
    have HSm := Lib.hid (fun k h1 h2 h3 => @ct_some x y a w k h1 h2 h3)
    have HNo := Lib.hid (fun h => @ct_none x y a w h)
    generalize hN : x * y = N at *
    generalize ctZ x y a w = t at *
    have hm4 : (twL x y a w).length ≤ 401 := by omega
    clear htw hlen h400 ho2 hbl2 hbx2 hm hN hok hpos
    unfold maxLen at hcm
    generalize twL x y a w = L at *
    generalize hm : L.length = m at *
    have Hm := Lib.hid hm
    clear hm
    go_wp2_with fail
    go_loopw [8, 9] (fun u8 u9 wr => ∃ k : Nat, k ≤ m ∧ u9 = .int .i64 (k : Int) ∧ u8 = .int .i64 (frN L k : Int) ∧ (∀ j, j < k → (frN L (j + 1) : Int) ≠ N) ∧ BL W x y g cg L wr) (fun _ u9 _ => m - (intOf u9).toNat)
    case atStart => exact ⟨0, Nat.zero_le _, rfl, rfl, fun j hj => absurd hj (by omega), hblz.out⟩
    case round =>
      clear hblz b0 b1
      obtain ⟨k, hk, rfl, rfl, hlow, hbl0⟩ := hrel
      have hbl := Lib.hid hbl0
      have HLow := Lib.hid hlow
      obtain ⟨b0, b1⟩ := hbl0.2.1.1
      have hk0 : (0 : Int) ≤ (k : Int) := Int.natCast_nonneg _
      have hfk := fr_le L k
      clear hlow
      by_cases hkm : k < m
      · have hp := at_some (l := L) (k := k) (by have := Hm.out; omega)
        have c0 := own_cellI hbl0.2.2 hp
        have hi1 : (k : Int) < (m : Int) := by omega
        have hi2 : (k : Int) ≤ (cg : Int) := by omega
        have hown := Lib.hid (ints_own hbl0.2.2).1
        have HCd : Hid (∀ c' nd, Calls Try.prog 50 #[.slice (some ⟨g, 0, none⟩) k c', .int .i64 (atN L k)] (wr.drewN nd) fun e w' => e = .returned (.bool (decide (atN L k ∈ L.take k))) ∧ wr.drewN nd = w') := Lib.hid fun c' nd => HIn.out k _ c' (wr.drewN nd) (by omega) (hown.out.keep fun _ _ => rfl)
        have HSk := Lib.hid (fun h => HSm.out k hkm h HLow.out)
        have hbd := Lib.hid (hbl.out.drs 1)
        clear hp hown hbl0
        have HNx : Hid ((frN L (k + 1) : Int) ≠ N → ∀ j, j < k + 1 → (frN L (j + 1) : Int) ≠ N) := Lib.hid fun h j hj => by
          rcases Nat.lt_or_ge j k with h' | h'
          · exact HLow.out j h'
          · obtain rfl : j = k := by omega
            exact h
        by_cases hin : atN L k ∈ L.take k
        · rw [decide_eq_true hin] at HCd
          have HO := Lib.hid (fr_in hin)
          rw [HO.out] at HSk HNx
          clear hin HIn
          generalize atN L k = p at *
          generalize frN L k = f at *
          by_cases he : (f : Int) = N
          · have hE := Lib.hid (HSk.out he).symm
            have hq : ((f : Int) == N) = true := by simpa using he
            clear he
            go_wp2_with fail
            try simp only [List.cons_append, List.nil_append, List.append_eq]
            refine wp_region_held_drew (S := (fun w' => w'.cell? ⟨g, k, none⟩ = some (.int .i64 p))) (by kernel_rfl) ?_ (fun hHeld0 => ?_)
            · (try dsimp only); go_keep
            refine wpAnyH_take (i := 0) (oi := { dst := some 21, op := Go.Op.move (Go.Operand.tmp 7), type := 26, pos := "l16_entry.go:37", after := #[], guard := none }) (v := ?_) rfl (by kernel_rfl) (by kernel_rfl) (by kernel_rfl) (fun _ _ _ h => h) (Or.inl ⟨by rfl, ?_⟩) (by assumption) ?_
            rotate_left
            · (intro w hSw; (try dsimp only at hSw); go_simp; try with_reducible rfl)
            try simp only [Act.put, List.setIfInBounds_toArray, List.set_cons_zero, List.set_cons_succ]
            refine wpAnyH_take (i := 1) (oi := { dst := some 22, op := Go.Op.move (Go.Operand.tmp 9), type := 3, pos := "l16_entry.go:37", after := #[], guard := none }) (v := ?_) rfl (by kernel_rfl) (by kernel_rfl) (by kernel_rfl) (fun _ _ _ h => h) (Or.inl ⟨by rfl, ?_⟩) (by assumption) ?_
            rotate_left
            · (intro w hSw; (try dsimp only at hSw); go_simp; try with_reducible rfl)
            try simp only [Act.put, List.setIfInBounds_toArray, List.set_cons_zero, List.set_cons_succ]
            refine wpAnyH_take (i := 2) (oi := { dst := some 23, op := Go.Op.slice 26 (Go.Operand.tmp 21) none (some (Go.Operand.tmp 22)) none, type := 26, pos := "l16_entry.go:37", after := #[{ on := 0, ground := Go.Ground.data }, { on := 1, ground := Go.Ground.data }], guard := none }) (v := ?_) rfl (by kernel_rfl) (by kernel_rfl) (by kernel_rfl) (fun _ _ _ h => h) (Or.inl ⟨by rfl, ?_⟩) (by assumption) ?_
            rotate_left
            · (intro w hSw; (try dsimp only at hSw); go_simp; try with_reducible rfl)
            try simp only [Act.put, List.setIfInBounds_toArray, List.set_cons_zero, List.set_cons_succ]
            refine wpAnyH_take (i := 3) (oi := { dst := some 24, op := Go.Op.move (Go.Operand.tmp 7), type := 26, pos := "l16_entry.go:37", after := #[], guard := none }) (v := ?_) rfl (by kernel_rfl) (by kernel_rfl) (by kernel_rfl) (fun _ _ _ h => h) (Or.inl ⟨by rfl, ?_⟩) (by assumption) ?_
            rotate_left
            · (intro w hSw; (try dsimp only at hSw); go_simp; try with_reducible rfl)
            try simp only [Act.put, List.setIfInBounds_toArray, List.set_cons_zero, List.set_cons_succ]
            refine wpAnyH_take (i := 4) (oi := { dst := some 25, op := Go.Op.move (Go.Operand.tmp 9), type := 3, pos := "l16_entry.go:37", after := #[], guard := none }) (v := ?_) rfl (by kernel_rfl) (by kernel_rfl) (by kernel_rfl) (fun _ _ _ h => h) (Or.inl ⟨by rfl, ?_⟩) (by assumption) ?_
            rotate_left
            · (intro w hSw; (try dsimp only at hSw); go_simp; try with_reducible rfl)
            try simp only [Act.put, List.setIfInBounds_toArray, List.set_cons_zero, List.set_cons_succ]
            refine wpAnyH_take (i := 5) (oi := { dst := some 26, op := Go.Op.indexAddr 26 (Go.Operand.tmp 24) (Go.Operand.tmp 25), type := 0, pos := "l16_entry.go:37", after := #[{ on := 3, ground := Go.Ground.data }, { on := 4, ground := Go.Ground.data }], guard := none }) (v := ?_) rfl (by kernel_rfl) (by kernel_rfl) (by kernel_rfl) (fun _ _ _ h => h) (Or.inl ⟨by rfl, ?_⟩) (by assumption) ?_
            rotate_left
            · (intro w hSw; (try dsimp only at hSw); go_simp; try with_reducible rfl)
            try simp only [Act.put, List.setIfInBounds_toArray, List.set_cons_zero, List.set_cons_succ]
            refine wpAnyH_take (i := 6) (oi := { dst := some 27, op := Go.Op.load 3 (Go.Operand.tmp 26), type := 3, pos := "l16_entry.go:37", after := #[{ on := 5, ground := Go.Ground.data }], guard := none }) (v := ?_) rfl (by kernel_rfl) (by kernel_rfl) (by kernel_rfl) (fun _ _ _ h => h) (Or.inl ⟨by rfl, ?_⟩) (by assumption) ?_
            rotate_left
            · (intro w hSw; (try dsimp only at hSw); go_simp; try with_reducible rfl)
            try simp only [Act.put, List.setIfInBounds_toArray, List.set_cons_zero, List.set_cons_succ]
            refine wpAnyH_ready (rs := [7]) (by kernel_rfl) (by simp) ?_
            refine AllReadyH.cons (o := { dst := some 28, op := Go.Op.call { callee := Go.Callee.value (Go.Operand.func 50), args := #[Go.Operand.tmp 23, Go.Operand.tmp 27], argTypes := #[26, 3] }, type := 4, pos := "l16_entry.go:37", after := #[{ on := 2, ground := Go.Ground.data }, { on := 6, ground := Go.Ground.data }], guard := none }) rfl (fun K7 hK7 => ?_) AllReadyH.nil
            go_simp
            (refine (HCd.out _ 1).mono ?_; rintro e v1 ⟨rfl, rfl⟩)
            go_wp2_with fail
            refine hK7.out _ _ ?_ (fun hHeld1 => ?_)
            · (try dsimp only); go_keep
            clear hK7 K7 hHeld0
            try simp only [Act.put, List.setIfInBounds_toArray, List.set_cons_zero, List.set_cons_succ]
            refine wpAnyH_take (i := 8) (oi := { dst := some 29, op := Go.Op.unOp Go.UnOp.not 4 (Go.Operand.tmp 28), type := 4, pos := "l16_entry.go:37", after := #[{ on := 7, ground := Go.Ground.data }], guard := none }) (v := ?_) rfl (by kernel_rfl) (by kernel_rfl) (by kernel_rfl) (fun _ _ _ h => h) (Or.inl ⟨by rfl, ?_⟩) (by assumption) ?_
            rotate_left
            · (intro w hSw; (try dsimp only at hSw); go_simp; try with_reducible rfl)
            try simp only [Act.put, List.setIfInBounds_toArray, List.set_cons_zero, List.set_cons_succ]
            refine wpAnyH_done (by kernel_rfl) ?_ _
            go_wp2_with fail
            refine (HCc.out _).mono ?_
            rintro e w5 ⟨rfl, hb⟩
            have hb5 := Lib.hid (hbd.out.call hb)
            clear hb
            go_wp2_with fail
            go_ret
            exact HK.out _ _ hE.out hb5.out.1
          · have hN := Lib.hid (HNx.out he)
            have hq : ((f : Int) == N) = false := by simpa using he
            clear he
            go_wp2_with fail
            try simp only [List.cons_append, List.nil_append, List.append_eq]
            refine wp_region_held_drew (S := (fun w' => w'.cell? ⟨g, k, none⟩ = some (.int .i64 p))) (by kernel_rfl) ?_ (fun hHeld0 => ?_)
            · (try dsimp only); go_keep
            refine wpAnyH_take (i := 0) (oi := { dst := some 21, op := Go.Op.move (Go.Operand.tmp 7), type := 26, pos := "l16_entry.go:37", after := #[], guard := none }) (v := ?_) rfl (by kernel_rfl) (by kernel_rfl) (by kernel_rfl) (fun _ _ _ h => h) (Or.inl ⟨by rfl, ?_⟩) (by assumption) ?_
            rotate_left
            · (intro w hSw; (try dsimp only at hSw); go_simp; try with_reducible rfl)
            try simp only [Act.put, List.setIfInBounds_toArray, List.set_cons_zero, List.set_cons_succ]
            refine wpAnyH_take (i := 1) (oi := { dst := some 22, op := Go.Op.move (Go.Operand.tmp 9), type := 3, pos := "l16_entry.go:37", after := #[], guard := none }) (v := ?_) rfl (by kernel_rfl) (by kernel_rfl) (by kernel_rfl) (fun _ _ _ h => h) (Or.inl ⟨by rfl, ?_⟩) (by assumption) ?_
            rotate_left
            · (intro w hSw; (try dsimp only at hSw); go_simp; try with_reducible rfl)
            try simp only [Act.put, List.setIfInBounds_toArray, List.set_cons_zero, List.set_cons_succ]
            refine wpAnyH_take (i := 2) (oi := { dst := some 23, op := Go.Op.slice 26 (Go.Operand.tmp 21) none (some (Go.Operand.tmp 22)) none, type := 26, pos := "l16_entry.go:37", after := #[{ on := 0, ground := Go.Ground.data }, { on := 1, ground := Go.Ground.data }], guard := none }) (v := ?_) rfl (by kernel_rfl) (by kernel_rfl) (by kernel_rfl) (fun _ _ _ h => h) (Or.inl ⟨by rfl, ?_⟩) (by assumption) ?_
            rotate_left
            · (intro w hSw; (try dsimp only at hSw); go_simp; try with_reducible rfl)
            try simp only [Act.put, List.setIfInBounds_toArray, List.set_cons_zero, List.set_cons_succ]
            refine wpAnyH_take (i := 3) (oi := { dst := some 24, op := Go.Op.move (Go.Operand.tmp 7), type := 26, pos := "l16_entry.go:37", after := #[], guard := none }) (v := ?_) rfl (by kernel_rfl) (by kernel_rfl) (by kernel_rfl) (fun _ _ _ h => h) (Or.inl ⟨by rfl, ?_⟩) (by assumption) ?_
            rotate_left
            · (intro w hSw; (try dsimp only at hSw); go_simp; try with_reducible rfl)
            try simp only [Act.put, List.setIfInBounds_toArray, List.set_cons_zero, List.set_cons_succ]
            refine wpAnyH_take (i := 4) (oi := { dst := some 25, op := Go.Op.move (Go.Operand.tmp 9), type := 3, pos := "l16_entry.go:37", after := #[], guard := none }) (v := ?_) rfl (by kernel_rfl) (by kernel_rfl) (by kernel_rfl) (fun _ _ _ h => h) (Or.inl ⟨by rfl, ?_⟩) (by assumption) ?_
            rotate_left
            · (intro w hSw; (try dsimp only at hSw); go_simp; try with_reducible rfl)
            try simp only [Act.put, List.setIfInBounds_toArray, List.set_cons_zero, List.set_cons_succ]
            refine wpAnyH_take (i := 5) (oi := { dst := some 26, op := Go.Op.indexAddr 26 (Go.Operand.tmp 24) (Go.Operand.tmp 25), type := 0, pos := "l16_entry.go:37", after := #[{ on := 3, ground := Go.Ground.data }, { on := 4, ground := Go.Ground.data }], guard := none }) (v := ?_) rfl (by kernel_rfl) (by kernel_rfl) (by kernel_rfl) (fun _ _ _ h => h) (Or.inl ⟨by rfl, ?_⟩) (by assumption) ?_
            rotate_left
            · (intro w hSw; (try dsimp only at hSw); go_simp; try with_reducible rfl)
            try simp only [Act.put, List.setIfInBounds_toArray, List.set_cons_zero, List.set_cons_succ]
            refine wpAnyH_take (i := 6) (oi := { dst := some 27, op := Go.Op.load 3 (Go.Operand.tmp 26), type := 3, pos := "l16_entry.go:37", after := #[{ on := 5, ground := Go.Ground.data }], guard := none }) (v := ?_) rfl (by kernel_rfl) (by kernel_rfl) (by kernel_rfl) (fun _ _ _ h => h) (Or.inl ⟨by rfl, ?_⟩) (by assumption) ?_
            rotate_left
            · (intro w hSw; (try dsimp only at hSw); go_simp; try with_reducible rfl)
            try simp only [Act.put, List.setIfInBounds_toArray, List.set_cons_zero, List.set_cons_succ]
            refine wpAnyH_ready (rs := [7]) (by kernel_rfl) (by simp) ?_
            refine AllReadyH.cons (o := { dst := some 28, op := Go.Op.call { callee := Go.Callee.value (Go.Operand.func 50), args := #[Go.Operand.tmp 23, Go.Operand.tmp 27], argTypes := #[26, 3] }, type := 4, pos := "l16_entry.go:37", after := #[{ on := 2, ground := Go.Ground.data }, { on := 6, ground := Go.Ground.data }], guard := none }) rfl (fun K7 hK7 => ?_) AllReadyH.nil
            go_simp
            (refine (HCd.out _ 1).mono ?_; rintro e v1 ⟨rfl, rfl⟩)
            go_wp2_with fail
            refine hK7.out _ _ ?_ (fun hHeld1 => ?_)
            · (try dsimp only); go_keep
            clear hK7 K7 hHeld0
            try simp only [Act.put, List.setIfInBounds_toArray, List.set_cons_zero, List.set_cons_succ]
            refine wpAnyH_take (i := 8) (oi := { dst := some 29, op := Go.Op.unOp Go.UnOp.not 4 (Go.Operand.tmp 28), type := 4, pos := "l16_entry.go:37", after := #[{ on := 7, ground := Go.Ground.data }], guard := none }) (v := ?_) rfl (by kernel_rfl) (by kernel_rfl) (by kernel_rfl) (fun _ _ _ h => h) (Or.inl ⟨by rfl, ?_⟩) (by assumption) ?_
            rotate_left
            · (intro w hSw; (try dsimp only at hSw); go_simp; try with_reducible rfl)
            try simp only [Act.put, List.setIfInBounds_toArray, List.set_cons_zero, List.set_cons_succ]
            refine wpAnyH_done (by kernel_rfl) ?_ _
            go_wp2_with fail
            refine (HCc.out _).mono ?_
            rintro e w5 ⟨rfl, hb⟩
            have hb5 := Lib.hid (hbd.out.call hb)
            clear hb
            go_wp2_with fail
            go_roundw
            case rel => exact ⟨k + 1, by omega, by go_num, by rw [HO.out], hN.out, hb5.out⟩
            case measure => (try simp [intOf]); omega
        · rw [decide_eq_false hin] at HCd
          have HO := Lib.hid (fr_out hin)
          rw [HO.out] at HSk HNx
          clear hin HIn
          generalize atN L k = p at *
          generalize frN L k = f at *
          have hf1 : IntKind.i64.wrap ((f : Int) + 1) = (f : Int) + 1 := IntWalk.i64_in _ (by omega)
          by_cases he : ((f + 1 : Nat) : Int) = N
          · have hE := Lib.hid (HSk.out he).symm
            have hq : ((f : Int) + 1 == N) = true := by rw [beq_iff_eq]; omega
            clear he
            go_wp2_with fail
            try simp only [List.cons_append, List.nil_append, List.append_eq]
            refine wp_region_held_drew (S := (fun w' => w'.cell? ⟨g, k, none⟩ = some (.int .i64 p))) (by kernel_rfl) ?_ (fun hHeld0 => ?_)
            · (try dsimp only); go_keep
            refine wpAnyH_take (i := 0) (oi := { dst := some 21, op := Go.Op.move (Go.Operand.tmp 7), type := 26, pos := "l16_entry.go:37", after := #[], guard := none }) (v := ?_) rfl (by kernel_rfl) (by kernel_rfl) (by kernel_rfl) (fun _ _ _ h => h) (Or.inl ⟨by rfl, ?_⟩) (by assumption) ?_
            rotate_left
            · (intro w hSw; (try dsimp only at hSw); go_simp; try with_reducible rfl)
            try simp only [Act.put, List.setIfInBounds_toArray, List.set_cons_zero, List.set_cons_succ]
            refine wpAnyH_take (i := 1) (oi := { dst := some 22, op := Go.Op.move (Go.Operand.tmp 9), type := 3, pos := "l16_entry.go:37", after := #[], guard := none }) (v := ?_) rfl (by kernel_rfl) (by kernel_rfl) (by kernel_rfl) (fun _ _ _ h => h) (Or.inl ⟨by rfl, ?_⟩) (by assumption) ?_
            rotate_left
            · (intro w hSw; (try dsimp only at hSw); go_simp; try with_reducible rfl)
            try simp only [Act.put, List.setIfInBounds_toArray, List.set_cons_zero, List.set_cons_succ]
            refine wpAnyH_take (i := 2) (oi := { dst := some 23, op := Go.Op.slice 26 (Go.Operand.tmp 21) none (some (Go.Operand.tmp 22)) none, type := 26, pos := "l16_entry.go:37", after := #[{ on := 0, ground := Go.Ground.data }, { on := 1, ground := Go.Ground.data }], guard := none }) (v := ?_) rfl (by kernel_rfl) (by kernel_rfl) (by kernel_rfl) (fun _ _ _ h => h) (Or.inl ⟨by rfl, ?_⟩) (by assumption) ?_
            rotate_left
            · (intro w hSw; (try dsimp only at hSw); go_simp; try with_reducible rfl)
            try simp only [Act.put, List.setIfInBounds_toArray, List.set_cons_zero, List.set_cons_succ]
            refine wpAnyH_take (i := 3) (oi := { dst := some 24, op := Go.Op.move (Go.Operand.tmp 7), type := 26, pos := "l16_entry.go:37", after := #[], guard := none }) (v := ?_) rfl (by kernel_rfl) (by kernel_rfl) (by kernel_rfl) (fun _ _ _ h => h) (Or.inl ⟨by rfl, ?_⟩) (by assumption) ?_
            rotate_left
            · (intro w hSw; (try dsimp only at hSw); go_simp; try with_reducible rfl)
            try simp only [Act.put, List.setIfInBounds_toArray, List.set_cons_zero, List.set_cons_succ]
            refine wpAnyH_take (i := 4) (oi := { dst := some 25, op := Go.Op.move (Go.Operand.tmp 9), type := 3, pos := "l16_entry.go:37", after := #[], guard := none }) (v := ?_) rfl (by kernel_rfl) (by kernel_rfl) (by kernel_rfl) (fun _ _ _ h => h) (Or.inl ⟨by rfl, ?_⟩) (by assumption) ?_
            rotate_left
            · (intro w hSw; (try dsimp only at hSw); go_simp; try with_reducible rfl)
            try simp only [Act.put, List.setIfInBounds_toArray, List.set_cons_zero, List.set_cons_succ]
            refine wpAnyH_take (i := 5) (oi := { dst := some 26, op := Go.Op.indexAddr 26 (Go.Operand.tmp 24) (Go.Operand.tmp 25), type := 0, pos := "l16_entry.go:37", after := #[{ on := 3, ground := Go.Ground.data }, { on := 4, ground := Go.Ground.data }], guard := none }) (v := ?_) rfl (by kernel_rfl) (by kernel_rfl) (by kernel_rfl) (fun _ _ _ h => h) (Or.inl ⟨by rfl, ?_⟩) (by assumption) ?_
            rotate_left
            · (intro w hSw; (try dsimp only at hSw); go_simp; try with_reducible rfl)
            try simp only [Act.put, List.setIfInBounds_toArray, List.set_cons_zero, List.set_cons_succ]
            refine wpAnyH_take (i := 6) (oi := { dst := some 27, op := Go.Op.load 3 (Go.Operand.tmp 26), type := 3, pos := "l16_entry.go:37", after := #[{ on := 5, ground := Go.Ground.data }], guard := none }) (v := ?_) rfl (by kernel_rfl) (by kernel_rfl) (by kernel_rfl) (fun _ _ _ h => h) (Or.inl ⟨by rfl, ?_⟩) (by assumption) ?_
            rotate_left
            · (intro w hSw; (try dsimp only at hSw); go_simp; try with_reducible rfl)
            try simp only [Act.put, List.setIfInBounds_toArray, List.set_cons_zero, List.set_cons_succ]
            refine wpAnyH_ready (rs := [7]) (by kernel_rfl) (by simp) ?_
            refine AllReadyH.cons (o := { dst := some 28, op := Go.Op.call { callee := Go.Callee.value (Go.Operand.func 50), args := #[Go.Operand.tmp 23, Go.Operand.tmp 27], argTypes := #[26, 3] }, type := 4, pos := "l16_entry.go:37", after := #[{ on := 2, ground := Go.Ground.data }, { on := 6, ground := Go.Ground.data }], guard := none }) rfl (fun K7 hK7 => ?_) AllReadyH.nil
            go_simp
            (refine (HCd.out _ 1).mono ?_; rintro e v1 ⟨rfl, rfl⟩)
            go_wp2_with fail
            refine hK7.out _ _ ?_ (fun hHeld1 => ?_)
            · (try dsimp only); go_keep
            clear hK7 K7 hHeld0
            try simp only [Act.put, List.setIfInBounds_toArray, List.set_cons_zero, List.set_cons_succ]
            refine wpAnyH_take (i := 8) (oi := { dst := some 29, op := Go.Op.unOp Go.UnOp.not 4 (Go.Operand.tmp 28), type := 4, pos := "l16_entry.go:37", after := #[{ on := 7, ground := Go.Ground.data }], guard := none }) (v := ?_) rfl (by kernel_rfl) (by kernel_rfl) (by kernel_rfl) (fun _ _ _ h => h) (Or.inl ⟨by rfl, ?_⟩) (by assumption) ?_
            rotate_left
            · (intro w hSw; (try dsimp only at hSw); go_simp; try with_reducible rfl)
            try simp only [Act.put, List.setIfInBounds_toArray, List.set_cons_zero, List.set_cons_succ]
            refine wpAnyH_done (by kernel_rfl) ?_ _
            go_wp2_with fail
            refine (HCc.out _).mono ?_
            rintro e w5 ⟨rfl, hb⟩
            have hb5 := Lib.hid (hbd.out.call hb)
            clear hb
            go_wp2_with fail
            go_ret
            exact HK.out _ _ hE.out hb5.out.1
          · have hN := Lib.hid (HNx.out he)
            have hq : ((f : Int) + 1 == N) = false := by rw [beq_eq_false_iff_ne]; omega
            clear he
            go_wp2_with fail
            try simp only [List.cons_append, List.nil_append, List.append_eq]
            refine wp_region_held_drew (S := (fun w' => w'.cell? ⟨g, k, none⟩ = some (.int .i64 p))) (by kernel_rfl) ?_ (fun hHeld0 => ?_)
            · (try dsimp only); go_keep
            refine wpAnyH_take (i := 0) (oi := { dst := some 21, op := Go.Op.move (Go.Operand.tmp 7), type := 26, pos := "l16_entry.go:37", after := #[], guard := none }) (v := ?_) rfl (by kernel_rfl) (by kernel_rfl) (by kernel_rfl) (fun _ _ _ h => h) (Or.inl ⟨by rfl, ?_⟩) (by assumption) ?_
            rotate_left
            · (intro w hSw; (try dsimp only at hSw); go_simp; try with_reducible rfl)
            try simp only [Act.put, List.setIfInBounds_toArray, List.set_cons_zero, List.set_cons_succ]
            refine wpAnyH_take (i := 1) (oi := { dst := some 22, op := Go.Op.move (Go.Operand.tmp 9), type := 3, pos := "l16_entry.go:37", after := #[], guard := none }) (v := ?_) rfl (by kernel_rfl) (by kernel_rfl) (by kernel_rfl) (fun _ _ _ h => h) (Or.inl ⟨by rfl, ?_⟩) (by assumption) ?_
            rotate_left
            · (intro w hSw; (try dsimp only at hSw); go_simp; try with_reducible rfl)
            try simp only [Act.put, List.setIfInBounds_toArray, List.set_cons_zero, List.set_cons_succ]
            refine wpAnyH_take (i := 2) (oi := { dst := some 23, op := Go.Op.slice 26 (Go.Operand.tmp 21) none (some (Go.Operand.tmp 22)) none, type := 26, pos := "l16_entry.go:37", after := #[{ on := 0, ground := Go.Ground.data }, { on := 1, ground := Go.Ground.data }], guard := none }) (v := ?_) rfl (by kernel_rfl) (by kernel_rfl) (by kernel_rfl) (fun _ _ _ h => h) (Or.inl ⟨by rfl, ?_⟩) (by assumption) ?_
            rotate_left
            · (intro w hSw; (try dsimp only at hSw); go_simp; try with_reducible rfl)
            try simp only [Act.put, List.setIfInBounds_toArray, List.set_cons_zero, List.set_cons_succ]
            refine wpAnyH_take (i := 3) (oi := { dst := some 24, op := Go.Op.move (Go.Operand.tmp 7), type := 26, pos := "l16_entry.go:37", after := #[], guard := none }) (v := ?_) rfl (by kernel_rfl) (by kernel_rfl) (by kernel_rfl) (fun _ _ _ h => h) (Or.inl ⟨by rfl, ?_⟩) (by assumption) ?_
            rotate_left
            · (intro w hSw; (try dsimp only at hSw); go_simp; try with_reducible rfl)
            try simp only [Act.put, List.setIfInBounds_toArray, List.set_cons_zero, List.set_cons_succ]
            refine wpAnyH_take (i := 4) (oi := { dst := some 25, op := Go.Op.move (Go.Operand.tmp 9), type := 3, pos := "l16_entry.go:37", after := #[], guard := none }) (v := ?_) rfl (by kernel_rfl) (by kernel_rfl) (by kernel_rfl) (fun _ _ _ h => h) (Or.inl ⟨by rfl, ?_⟩) (by assumption) ?_
            rotate_left
            · (intro w hSw; (try dsimp only at hSw); go_simp; try with_reducible rfl)
            try simp only [Act.put, List.setIfInBounds_toArray, List.set_cons_zero, List.set_cons_succ]
            refine wpAnyH_take (i := 5) (oi := { dst := some 26, op := Go.Op.indexAddr 26 (Go.Operand.tmp 24) (Go.Operand.tmp 25), type := 0, pos := "l16_entry.go:37", after := #[{ on := 3, ground := Go.Ground.data }, { on := 4, ground := Go.Ground.data }], guard := none }) (v := ?_) rfl (by kernel_rfl) (by kernel_rfl) (by kernel_rfl) (fun _ _ _ h => h) (Or.inl ⟨by rfl, ?_⟩) (by assumption) ?_
            rotate_left
            · (intro w hSw; (try dsimp only at hSw); go_simp; try with_reducible rfl)
            try simp only [Act.put, List.setIfInBounds_toArray, List.set_cons_zero, List.set_cons_succ]
            refine wpAnyH_take (i := 6) (oi := { dst := some 27, op := Go.Op.load 3 (Go.Operand.tmp 26), type := 3, pos := "l16_entry.go:37", after := #[{ on := 5, ground := Go.Ground.data }], guard := none }) (v := ?_) rfl (by kernel_rfl) (by kernel_rfl) (by kernel_rfl) (fun _ _ _ h => h) (Or.inl ⟨by rfl, ?_⟩) (by assumption) ?_
            rotate_left
            · (intro w hSw; (try dsimp only at hSw); go_simp; try with_reducible rfl)
            try simp only [Act.put, List.setIfInBounds_toArray, List.set_cons_zero, List.set_cons_succ]
            refine wpAnyH_ready (rs := [7]) (by kernel_rfl) (by simp) ?_
            refine AllReadyH.cons (o := { dst := some 28, op := Go.Op.call { callee := Go.Callee.value (Go.Operand.func 50), args := #[Go.Operand.tmp 23, Go.Operand.tmp 27], argTypes := #[26, 3] }, type := 4, pos := "l16_entry.go:37", after := #[{ on := 2, ground := Go.Ground.data }, { on := 6, ground := Go.Ground.data }], guard := none }) rfl (fun K7 hK7 => ?_) AllReadyH.nil
            go_simp
            (refine (HCd.out _ 1).mono ?_; rintro e v1 ⟨rfl, rfl⟩)
            go_wp2_with fail
            refine hK7.out _ _ ?_ (fun hHeld1 => ?_)
            · (try dsimp only); go_keep
            clear hK7 K7 hHeld0
            try simp only [Act.put, List.setIfInBounds_toArray, List.set_cons_zero, List.set_cons_succ]
            refine wpAnyH_take (i := 8) (oi := { dst := some 29, op := Go.Op.unOp Go.UnOp.not 4 (Go.Operand.tmp 28), type := 4, pos := "l16_entry.go:37", after := #[{ on := 7, ground := Go.Ground.data }], guard := none }) (v := ?_) rfl (by kernel_rfl) (by kernel_rfl) (by kernel_rfl) (fun _ _ _ h => h) (Or.inl ⟨by rfl, ?_⟩) (by assumption) ?_
            rotate_left
            · (intro w hSw; (try dsimp only at hSw); go_simp; try with_reducible rfl)
            try simp only [Act.put, List.setIfInBounds_toArray, List.set_cons_zero, List.set_cons_succ]
            refine wpAnyH_done (by kernel_rfl) ?_ _
            go_wp2_with fail
            refine (HCc.out _).mono ?_
            rintro e w5 ⟨rfl, hb⟩
            have hb5 := Lib.hid (hbd.out.call hb)
            clear hb
            go_wp2_with fail
            go_roundw
            case rel => exact ⟨k + 1, by omega, by go_num, by rw [HO.out]; rfl, hN.out, hb5.out⟩
            case measure => (try simp [intOf]); omega
      · obtain rfl : k = m := by omega
        have hE := Lib.hid (HNo.out HLow.out).symm
        clear hbl0
        go_wp2_with fail
        go_ret
        exact HK.out _ _ hE.out hbl.out.1

theorem box_low {b : Nat} {x y : Int} {X X' : World} (h : Box b x y X) (hb : Below (b + 1) X X') : Box b x y X' :=
  ⟨⟨(hb.cell (p := ⟨b, 0, none⟩) (Nat.lt_succ_self b)).trans h.1.1, (hb.cell (p := ⟨b, 1, none⟩) (Nat.lt_succ_self b)).trans h.1.2⟩, Nat.lt_of_lt_of_le h.2 hb.size⟩

set_option maxRecDepth 100000 in
set_option maxHeartbeats 4000000 in
theorem snakeWay_any (x y : Int) (W : World) :
    Calls Try.prog 25 #[.agg #[.int .i64 x, .int .i64 y]] W (Ints (snL x y) W) := by
  obtain ⟨i0, hi0, hz0, hz1, hz2⟩ := info_parts info_int
  have HK := @Lib.hid _ (fun w' v n base => @ints_mk (snL x y) W w' v n base)
  have HX := Lib.hid (fun T o => (box_new x y W T).call (below_box _ o))
  have HO := Lib.hid (fun T => @ol_new W (W.alloc (.cells #[.int .i64 x, .int .i64 y] T)) (below_box _ _) (by simp))
  have hbs : Hid (∀ T, (W.alloc (.cells #[.int .i64 x, .int .i64 y] T)).heap.size = W.heap.size + 1) := Lib.hid fun T => by simp
  by_cases hok : 1 ≤ x ∧ x ≤ 4 ∧ 1 ≤ y ∧ y ≤ 4
  · have HG : Hid (∀ X, Calls Try.prog 41 #[.agg #[.int .i64 x, .int .i64 y]] X (Bl true X)) := Lib.hid fun X => gridS.gridOk_yes x y X hok.1 hok.2.1 hok.2.2.1 hok.2.2.2
    have HE : Hid (snK x y.toNat = snL x y) := Lib.hid (by unfold snL; rw [if_pos hok])
    have HLen := Lib.hid (fun k i hi => @sp_len x hok.2.1 k i hi)
    obtain ⟨q, rfl⟩ : ∃ q : Nat, x = (q : Int) + 1 := ⟨(x - 1).toNat, by omega⟩
    obtain ⟨r, rfl⟩ := Int.eq_ofNat_of_zero_le (show 0 ≤ y by omega)
    have hq3 : q ≤ 3 := by omega
    have hr4 : r ≤ 4 := by omega
    have HFull : Hid (∀ k, snP ((q : Int) + 1) k q = snK ((q : Int) + 1) (k + 1)) := Lib.hid fun k => by
      have := sn_full ((q : Int) + 1) k
      rwa [show ((q : Int) + 1 - 1).toNat = q by omega] at this
    rw [Int.toNat_natCast] at HE
    clear hok
    generalize snL ((q : Int) + 1) (r : Int) = F at *
    go_enter Try.func25, Try.ntmps25
    go_wp2_with fail
    have hol0 := Lib.hid (HO.out 25)
    rw [hbs.out] at hol0
    have hbx0 := Lib.hid (HX.out 25 (.cells #[] 3))
    clear HO HX hbs
    go_loopw [3, 4] (fun u3 u4 wr => ∃ k : Nat, k ≤ r ∧ u4 = .int .i64 (k : Int) ∧ OL W (W.heap.size + 1) (snK ((q : Int) + 1) k) u3 wr ∧ Box W.heap.size ((q : Int) + 1) (r : Int) wr) (fun _ u4 _ => r - (intOf u4).toNat)
    case atStart => exact ⟨0, Nat.zero_le _, rfl, hol0.out, hbx0.out⟩
    case round =>
      clear hol0 hbx0
      obtain ⟨k, hk, rfl, hol0, hbx0⟩ := hrel
      have hol := Lib.hid hol0
      have hbx := Lib.hid hbx0
      obtain ⟨A3, c3, rfl⟩ := hol0.form
      obtain ⟨b0, b1⟩ := hbx0.1
      have hk0 : (0 : Int) ≤ (k : Int) := Int.natCast_nonneg _
      clear hol0 hbx0
      by_cases hkr : k < r
      · have hi1 : (k : Int) < (r : Int) := by omega
        have hgt : decide ((0 : Int) < (k : Int)) = decide (0 < k) := by rw [decide_eq_decide]; omega
        have hrem : (k : Int).tmod 2 = ((k % 2 : Nat) : Int) := by rw [IntWalk.rem_in _ _ (by omega)]; omega
        have hD : Hid ((k % 2 = 1 → snD k = 3) ∧ (k % 2 = 0 → snD k = 1)) := Lib.hid (by unfold snD; exact ⟨fun h => if_pos h, fun h => if_neg (by omega)⟩)
        have hlk := HLen.out k 0 (by omega)
        have hlk2 : (snK ((q : Int) + 1) k).length ≤ 100 := by have := sn_len (x := (q : Int) + 1) (by omega) k; omega
        have hStart : Hid ((k = 0 → snP ((q : Int) + 1) k 0 = snK ((q : Int) + 1) k) ∧ (k ≠ 0 → snP ((q : Int) + 1) k 0 = snK ((q : Int) + 1) k ++ [2])) := Lib.hid ⟨fun h => sn_zero _ h, fun h => sn_down _ h⟩
        have HNx := Lib.hid (sn_next ((q : Int) + 1) k)
        have HFk := Lib.hid (HFull.out k)
        have HLk := Lib.hid (HLen.out k)
        clear hlk HLen HFull
        generalize snK ((q : Int) + 1) k = L at *
        generalize snD k = d at *
        have hsz := hol.out.2.2.1
        have hpar : k % 2 = 0 ∨ k % 2 = 1 := by omega
        rcases Nat.eq_zero_or_pos k with hkz | hkz
        · subst hkz
          obtain rfl : d = 1 := hD.out.2 rfl
          have HS0 := Lib.hid hol.out
          rw [← hStart.out.1 rfl] at HS0
          have HB0 := Lib.hid hbx.out
          have hpl : (snP ((q : Int) + 1) 0 0).length = L.length := by rw [hStart.out.1 rfl]
          rw [← hpl]
          clear hD hStart hpar hgt hrem hol hbx hpl
          go_wp2_with fail
          refine (HG.out _).mono ?_
          rintro e w5 ⟨rfl, hb⟩
          replace HS0 := Lib.hid (HS0.out.call hb)
          replace HB0 := Lib.hid (HB0.out.call hb)
          clear hb b0 b1
          obtain ⟨b0, b1⟩ := HB0.out.1
          go_wp2_with fail
          go_loopw [3, 6] (fun u3 u6 wq => ∃ i : Nat, i ≤ q ∧ u6 = .int .i64 ((i : Int) + 1) ∧ OL W (W.heap.size + 1) (snP ((q : Int) + 1) 0 i) u3 wq ∧ Box W.heap.size ((q : Int) + 1) (r : Int) wq) (fun _ u6 _ => q + 1 - (intOf u6).toNat)
          case atStart => exact ⟨0, Nat.zero_le _, rfl, HS0.out, HB0.out⟩
          case round =>
            clear HS0 HB0 b0 b1
            obtain ⟨i, hiq, rfl, hol0, hbx0⟩ := hrel
            have hol := Lib.hid hol0
            have hbx := Lib.hid hbx0
            obtain ⟨A3, c3, rfl⟩ := hol0.form
            obtain ⟨b0, b1⟩ := hbx0.1
            have hsz := hol0.2.2.1
            have hli := HLk.out i (by omega)
            clear hol0 hbx0
            by_cases hiq' : i < q
            · have hi2 : (i : Int) + 1 < (q : Int) + 1 := by omega
              have hi3 : (i : Int) < (q : Int) := by omega
              have HNi := Lib.hid (HNx.out i)
              generalize snP ((q : Int) + 1) 0 i = Li at *
              go_wp2_with (at_builtin; refine wpList_append_lies _ rfl (.tmp 32) (.tmp 34) 26 rfl (W.heap.size + 1) 3 i0 _ 1 8 Try.underlying26 hi0 hz0 hz1 hz2 rfl (by omega) _ (Li.length) _ rfl (hol.out.2.2.2.alloc _) ⟨wr.heap.size, 0, none⟩ 1 1 (icells [1]) rfl rfl (news_eqI rfl (heap_alloc_new wr _)) (oneCellI _) (by omega) (by unfold maxLen; omega) (by omega) (by simp; omega) (wr.heap.size + 1) (by simp) ?_; intro gg cap w3 hown' hgrow hat hlt2; clear hlt2; have HAt := Lib.hid hat; clear hat)
              have hn2 := hol.out.app hown' hgrow
              have HN1 := Lib.hid hn2.1
              have HN2 := Lib.hid (box_low hbx.out hn2.2)
              clear hn2 hown' hgrow HAt hol hbx
              obtain ⟨b0, b1⟩ := HN2.out.1
              go_wp2_with fail
              go_roundw
              case rel => exact ⟨i + 1, by omega, by go_num, by rw [HNi.out]; exact HN1.out, HN2.out⟩
              case measure => (try simp [intOf]); omega
            · obtain rfl : i = q := by omega
              rw [HFk.out] at hol
              rw [HFk.out]
              go_wp2_with fail
              go_roundw
              case rel => exact ⟨0 + 1, by omega, by go_num, hol.out, hbx.out⟩
              case measure => (try simp [intOf]); omega
        · have hkp : decide (0 < k) = true := decide_eq_true hkz
          have hkp2 : decide ((0 : Int) < (k : Int)) = true := decide_eq_true (by omega)
          have hS0 := hStart.out.2 (by omega)
          rcases hpar with hpar | hpar
          · obtain rfl : d = 1 := hD.out.2 hpar
            have hr2 : (k : Int).tmod 2 = 0 := by rw [hrem, hpar]; rfl
            have hr3 : ((k : Int).tmod 2 == 1) = false := by rw [hr2]; rfl
            clear hD hrem hpar
            go_wp2_with fail
            refine (HG.out _).mono ?_
            rintro e w5 ⟨rfl, hb⟩
            have hol5 := Lib.hid (hol.out.call hb)
            have hbx5 := Lib.hid (hbx.out.call hb)
            have hsz5 := hol5.out.2.2.1
            clear hb b0 b1 hol hbx
            go_wp2_with (at_builtin; refine wpList_append_lies _ rfl (.tmp 20) (.tmp 21) 26 rfl (W.heap.size + 1) 3 i0 _ 1 8 Try.underlying26 hi0 hz0 hz1 hz2 rfl (by omega) _ (L.length) _ rfl (hol5.out.2.2.2.alloc _) ⟨w5.heap.size, 0, none⟩ 1 1 (icells [2]) rfl rfl (news_eqI rfl (heap_alloc_new w5 _)) (oneCellI _) (by omega) (by unfold maxLen; omega) (by omega) (by simp; omega) (w5.heap.size + 1) (by simp) ?_; intro gg cap w3 hown' hgrow hat hlt2; clear hlt2; have HAt := Lib.hid hat; clear hat)
            have hn2 := hol5.out.app hown' hgrow
            rw [← hS0] at hn2
            have HS0 := Lib.hid hn2.1
            have HB0 := Lib.hid (box_low hbx5.out hn2.2)
            have hpl : L.length + 1 = (snP ((q : Int) + 1) k 0).length := by rw [hS0]; simp
            rw [hpl] at HS0 ⊢
            clear hn2 hown' hgrow HAt hol5 hbx5 hS0 hStart hpl
            obtain ⟨b0, b1⟩ := HB0.out.1
            go_loopw [3, 6] (fun u3 u6 wq => ∃ i : Nat, i ≤ q ∧ u6 = .int .i64 ((i : Int) + 1) ∧ OL W (W.heap.size + 1) (snP ((q : Int) + 1) k i) u3 wq ∧ Box W.heap.size ((q : Int) + 1) (r : Int) wq) (fun _ u6 _ => q + 1 - (intOf u6).toNat)
            case atStart => exact ⟨0, Nat.zero_le _, rfl, HS0.out, HB0.out⟩
            case round =>
              clear HS0 HB0 b0 b1
              obtain ⟨i, hiq, rfl, hol0, hbx0⟩ := hrel
              have hol := Lib.hid hol0
              have hbx := Lib.hid hbx0
              obtain ⟨A3, c3, rfl⟩ := hol0.form
              obtain ⟨b0, b1⟩ := hbx0.1
              have hsz := hol0.2.2.1
              have hli := HLk.out i (by omega)
              clear hol0 hbx0
              by_cases hiq' : i < q
              · have hi2 : (i : Int) + 1 < (q : Int) + 1 := by omega
                have hi3 : (i : Int) < (q : Int) := by omega
                have HNi := Lib.hid (HNx.out i)
                generalize snP ((q : Int) + 1) k i = Li at *
                go_wp2_with (at_builtin; refine wpList_append_lies _ rfl (.tmp 32) (.tmp 34) 26 rfl (W.heap.size + 1) 3 i0 _ 1 8 Try.underlying26 hi0 hz0 hz1 hz2 rfl (by omega) _ (Li.length) _ rfl (hol.out.2.2.2.alloc _) ⟨wr.heap.size, 0, none⟩ 1 1 (icells [1]) rfl rfl (news_eqI rfl (heap_alloc_new wr _)) (oneCellI _) (by omega) (by unfold maxLen; omega) (by omega) (by simp; omega) (wr.heap.size + 1) (by simp) ?_; intro gg cap w3 hown' hgrow hat hlt2; clear hlt2; have HAt := Lib.hid hat; clear hat)
                have hn2 := hol.out.app hown' hgrow
                have HN1 := Lib.hid hn2.1
                have HN2 := Lib.hid (box_low hbx.out hn2.2)
                clear hn2 hown' hgrow HAt hol hbx
                obtain ⟨b0, b1⟩ := HN2.out.1
                go_wp2_with fail
                go_roundw
                case rel => exact ⟨i + 1, by omega, by go_num, by rw [HNi.out]; exact HN1.out, HN2.out⟩
                case measure => (try simp [intOf]); omega
              · obtain rfl : i = q := by omega
                rw [HFk.out] at hol
                rw [HFk.out]
                go_wp2_with fail
                go_roundw
                case rel => exact ⟨k + 1, by omega, by go_num, hol.out, hbx.out⟩
                case measure => (try simp [intOf]); omega
          · obtain rfl : d = 3 := hD.out.1 hpar
            have hr2 : (k : Int).tmod 2 = 1 := by rw [hrem, hpar]; rfl
            have hr3 : ((k : Int).tmod 2 == 1) = true := by rw [hr2]; rfl
            clear hD hrem hpar
            go_wp2_with fail
            refine (HG.out _).mono ?_
            rintro e w5 ⟨rfl, hb⟩
            have hol5 := Lib.hid (hol.out.call hb)
            have hbx5 := Lib.hid (hbx.out.call hb)
            have hsz5 := hol5.out.2.2.1
            clear hb b0 b1 hol hbx
            go_wp2_with (at_builtin; refine wpList_append_lies _ rfl (.tmp 20) (.tmp 21) 26 rfl (W.heap.size + 1) 3 i0 _ 1 8 Try.underlying26 hi0 hz0 hz1 hz2 rfl (by omega) _ (L.length) _ rfl (hol5.out.2.2.2.alloc _) ⟨w5.heap.size, 0, none⟩ 1 1 (icells [2]) rfl rfl (news_eqI rfl (heap_alloc_new w5 _)) (oneCellI _) (by omega) (by unfold maxLen; omega) (by omega) (by simp; omega) (w5.heap.size + 1) (by simp) ?_; intro gg cap w3 hown' hgrow hat hlt2; clear hlt2; have HAt := Lib.hid hat; clear hat)
            have hn2 := hol5.out.app hown' hgrow
            rw [← hS0] at hn2
            have HS0 := Lib.hid hn2.1
            have HB0 := Lib.hid (box_low hbx5.out hn2.2)
            have hpl : L.length + 1 = (snP ((q : Int) + 1) k 0).length := by rw [hS0]; simp
            rw [hpl] at HS0 ⊢
            clear hn2 hown' hgrow HAt hol5 hbx5 hS0 hStart hpl
            obtain ⟨b0, b1⟩ := HB0.out.1
            go_loopw [3, 6] (fun u3 u6 wq => ∃ i : Nat, i ≤ q ∧ u6 = .int .i64 ((i : Int) + 1) ∧ OL W (W.heap.size + 1) (snP ((q : Int) + 1) k i) u3 wq ∧ Box W.heap.size ((q : Int) + 1) (r : Int) wq) (fun _ u6 _ => q + 1 - (intOf u6).toNat)
            case atStart => exact ⟨0, Nat.zero_le _, rfl, HS0.out, HB0.out⟩
            case round =>
              clear HS0 HB0 b0 b1
              obtain ⟨i, hiq, rfl, hol0, hbx0⟩ := hrel
              have hol := Lib.hid hol0
              have hbx := Lib.hid hbx0
              obtain ⟨A3, c3, rfl⟩ := hol0.form
              obtain ⟨b0, b1⟩ := hbx0.1
              have hsz := hol0.2.2.1
              have hli := HLk.out i (by omega)
              clear hol0 hbx0
              by_cases hiq' : i < q
              · have hi2 : (i : Int) + 1 < (q : Int) + 1 := by omega
                have hi3 : (i : Int) < (q : Int) := by omega
                have HNi := Lib.hid (HNx.out i)
                generalize snP ((q : Int) + 1) k i = Li at *
                go_wp2_with (at_builtin; refine wpList_append_lies _ rfl (.tmp 32) (.tmp 34) 26 rfl (W.heap.size + 1) 3 i0 _ 1 8 Try.underlying26 hi0 hz0 hz1 hz2 rfl (by omega) _ (Li.length) _ rfl (hol.out.2.2.2.alloc _) ⟨wr.heap.size, 0, none⟩ 1 1 (icells [3]) rfl rfl (news_eqI rfl (heap_alloc_new wr _)) (oneCellI _) (by omega) (by unfold maxLen; omega) (by omega) (by simp; omega) (wr.heap.size + 1) (by simp) ?_; intro gg cap w3 hown' hgrow hat hlt2; clear hlt2; have HAt := Lib.hid hat; clear hat)
                have hn2 := hol.out.app hown' hgrow
                have HN1 := Lib.hid hn2.1
                have HN2 := Lib.hid (box_low hbx.out hn2.2)
                clear hn2 hown' hgrow HAt hol hbx
                obtain ⟨b0, b1⟩ := HN2.out.1
                go_wp2_with fail
                go_roundw
                case rel => exact ⟨i + 1, by omega, by go_num, by rw [HNi.out]; exact HN1.out, HN2.out⟩
                case measure => (try simp [intOf]); omega
              · obtain rfl : i = q := by omega
                rw [HFk.out] at hol
                rw [HFk.out]
                go_wp2_with fail
                go_roundw
                case rel => exact ⟨k + 1, by omega, by go_num, hol.out, hbx.out⟩
                case measure => (try simp [intOf]); omega
      · obtain rfl : k = r := by omega
        rw [HE.out] at hol
        rw [HE.out]
        go_wp2_with fail
        go_ret
        exact HK.out _ _ _ _ rfl hol.out.2.2.2 hol.out.2.1 hol.out.1
  · have HG : Hid (∀ X, Calls Try.prog 41 #[.agg #[.int .i64 x, .int .i64 y]] X (Bl false X)) := Lib.hid fun X => gridS.gridOk_no x y X hok
    have HE : Hid ([] = snL x y) := Lib.hid (by unfold snL; rw [if_neg hok])
    clear hok
    generalize snL x y = F at *
    go_enter Try.func25, Try.ntmps25
    go_wp2_with fail
    have hol0 := Lib.hid (HO.out 25)
    rw [hbs.out] at hol0
    have hbx0 := Lib.hid (HX.out 25 (.cells #[] 3))
    clear HO HX
    go_loopw [3, 4] (fun u3 u4 wr => u3 = .slice (some ⟨W.heap.size + 1, 0, none⟩) 0 0 ∧ u4 = .int .i64 0 ∧ OL W (W.heap.size + 1) [] u3 wr ∧ Box W.heap.size x y wr) (fun _ _ _ => 0)
    case atStart => exact ⟨rfl, rfl, hol0.out, hbx0.out⟩
    case round =>
      clear hol0 hbx0
      obtain ⟨rfl, rfl, hol0, hbx0⟩ := hrel
      have hol := Lib.hid hol0
      obtain ⟨b0, b1⟩ := hbx0.1
      clear hol0 hbx0
      by_cases hy : 0 < y
      · have hd : decide (0 < y) = true := decide_eq_true hy
        go_wp2_with fail
        refine (HG.out _).mono ?_
        rintro e w5 ⟨rfl, hb⟩
        have hol5 := Lib.hid (hol.out.call hb)
        clear hb
        go_wp2_with fail
        go_ret
        exact HK.out _ _ _ _ (by rw [← HE.out]) (by rw [← HE.out]; exact hol5.out.2.2.2) hol5.out.2.1 hol5.out.1
      · have hd : decide (0 < y) = false := decide_eq_false hy
        go_wp2_with fail
        go_ret
        exact HK.out _ _ _ _ (by rw [← HE.out]) (by rw [← HE.out]; exact hol.out.2.2.2) hol.out.2.1 hol.out.1
end Go.Proofs.Ytgocbnnhhpmndaa.entT
