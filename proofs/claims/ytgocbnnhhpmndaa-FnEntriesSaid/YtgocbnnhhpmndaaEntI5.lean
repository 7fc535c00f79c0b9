/- The contract of the program's way row by row. -/
import Derived.Test.YtgocbnnhhpmndaaEntI4
import Derived.Test.YtgocbnnhhpmndaaPrgM
namespace Go.Proofs.Ytgocbnnhhpmndaa.entI
open Go.ChangeShapes Go.WideShapes Go.ChangeAt Go.RowKit
open draw gridP gridC gridE bitP mazeP mazeC mazeM mazeR mazeI intsP reachP reachM reachN reachD intA listK wayP ersP ersO entP entO
set_option linter.unusedVariables false

/-- The direction ahead of a row. -/
def alZ (k : Nat) : Int := if k = 0 then 1 else snD (k - 1)
theorem al_turn {k : Nat} (h : 0 < k) : trZ (trZ (alZ k)) = snD k := by
  unfold alZ snD
  rw [if_neg (by omega)]
  rcases Nat.mod_two_eq_zero_or_one k with e | e
  · rw [if_pos (show (k - 1) % 2 = 1 by omega), if_neg (by omega)]; decide
  · rw [if_neg (show ¬ (k - 1) % 2 = 1 by omega), if_pos e]; decide
theorem al_next (k : Nat) : snD k = alZ (k + 1) := by unfold alZ; rw [if_neg (by omega)]; rfl
theorem sp_app (x : Int) (k i : Nat) : snP x k 0 ++ List.replicate i (snD k) = snP x k i := by unfold snP; simp
/-- A whole list is appended. -/
theorem ol_apps {W X X' : World} {b : Nat} {l r : List Int} {v v' : Value} (h : OL W b l v X) (ho : X'.ownsRow b 3 1 v' (l ++ r).length (icells (l ++ r))) (hg : X.grownBy X' v.ownBlock) : OL W b (l ++ r) v' X' ∧ Below b X X' := by
  obtain ⟨h1, h2, h3, h4⟩ := h
  have hb : Below b X X' := (Below.refl b X).grown hg h3 (fun j hj => (h4.lt j hj).1)
  exact ⟨⟨h1.grown hg h1.size (fun j hj => Nat.le_trans h2 (h4.lt j hj).1), h2, Nat.le_trans h3 hb.size, ho⟩, hb⟩
theorem box_low {b : Nat} {x y : Int} {X X' : World} (h : Box b x y X) (hb : Below (b + 1) X X') : Box b x y X' :=
  ⟨⟨(hb.cell (p := ⟨b, 0, none⟩) (Nat.lt_succ_self b)).trans h.1.1, (hb.cell (p := ⟨b, 1, none⟩) (Nat.lt_succ_self b)).trans h.1.2⟩, Nat.lt_of_lt_of_le h.2 hb.size⟩

set_option maxRecDepth 100000 in
set_option maxHeartbeats 4000000 in
theorem snakeWay_any (x y : Int) (W : World) :
    Calls Try.prog 17 #[.agg #[.int .i64 x, .int .i64 y]] W (Ints (snL x y) W) := by
  obtain ⟨i0, hi0, hz0, hz1, hz2⟩ := info_parts info_int
  have HK := @Lib.hid _ (fun w' v n base => @ints_mk (snL x y) W w' v n base)
  have HX := Lib.hid (fun T => box_new x y W T)
  have HB := Lib.hid (fun T => below_box W (.cells #[.int .i64 x, .int .i64 y] T))
  by_cases hok : 1 ≤ x ∧ x ≤ 4 ∧ 1 ≤ y ∧ y ≤ 4
  · have HG : Hid (∀ X, Calls Try.prog 46 #[.agg #[.int .i64 x, .int .i64 y]] X (Bl true X)) := Lib.hid fun X => ok_yes x y X hok.1 hok.2.1 hok.2.2.1 hok.2.2.2
    have HE : Hid (snK x y.toNat = snL x y) := Lib.hid (by unfold snL; rw [if_pos hok])
    have HLen := Lib.hid (fun k => @sn_len x hok.2.1 k)
    have HT := Lib.hid (fun d X => gridI.turnRight_any d X)
    obtain ⟨q, rfl⟩ : ∃ q : Nat, x = (q : Int) + 1 := ⟨(x - 1).toNat, by omega⟩
    obtain ⟨r, rfl⟩ := Int.eq_ofNat_of_zero_le (show 0 ≤ y by omega)
    have hq3 : q ≤ 3 := by omega
    have hr4 : r ≤ 4 := by omega
    have hw1 : IntKind.i64.wrap (q : Int) = (q : Int) := IntWalk.i64_in _ (by omega)
    have HFull : Hid (∀ k, snP ((q : Int) + 1) k 0 ++ List.replicate q (snD k) = snK ((q : Int) + 1) (k + 1)) := Lib.hid fun k => by
      have := sn_full ((q : Int) + 1) k
      rw [sp_app]
      rwa [show ((q : Int) + 1 - 1).toNat = q by omega] at this
    have HRep := Lib.hid (fun g d X h1 h2 => repeat_any ⟨g, 0, none⟩ 1 q d hq3 X h1 h2)
    rw [Int.toNat_natCast] at HE
    clear hok
    generalize snL ((q : Int) + 1) (r : Int) = F at *
    go_enter Try.func17, Try.ntmps17
    go_wp2_with fail
    refine (HG.out _).mono ?_
    rintro e w1 ⟨rfl, hb⟩
    have hbl1 := Lib.hid (below_call (HB.out _) hb)
    have hbx1 := Lib.hid ((HX.out _).call hb)
    have hz1' : W.heap.size + 1 ≤ w1.heap.size := by have := hb.size; simp at this; omega
    have hol1 := Lib.hid (ol_nil hbl1.out (Nat.le_succ _) hz1')
    obtain ⟨b0, b1⟩ := hbx1.out.1
    clear hb HB HX HG hbl1
    go_wp2_with fail
    go_loopw [3, 4, 11] (fun u3 u4 u11 wr => ∃ k : Nat, k ≤ r ∧ u11 = .int .i64 (k : Int) ∧ u4 = .int .i64 (alZ k) ∧ OL W (W.heap.size + 1) (snK ((q : Int) + 1) k) u3 wr ∧ Box W.heap.size ((q : Int) + 1) (r : Int) wr) (fun _ _ u11 _ => r - (intOf u11).toNat)
    case atStart => exact ⟨0, Nat.zero_le _, rfl, rfl, hol1.out, hbx1.out⟩
    case round =>
      clear hol1 hbx1 b0 b1 hz1'
      obtain ⟨k, hk, rfl, rfl, hol0, hbx0⟩ := hrel
      have hol := Lib.hid hol0
      have hbx := Lib.hid hbx0
      obtain ⟨A3, c3, rfl⟩ := hol0.form
      obtain ⟨b0, b1⟩ := hbx0.1
      have hsz := hol0.2.2.1
      have hk0 : (0 : Int) ≤ (k : Int) := Int.natCast_nonneg _
      have hll := HLen.out k
      clear hol0 hbx0
      by_cases hkr : k < r
      · have hi1 : (k : Int) < (r : Int) := by omega
        have HFk := Lib.hid (HFull.out k)
        have HAl := Lib.hid (al_next k)
        rcases Nat.eq_zero_or_pos k with hkz | hkz
        · subst hkz
          have hal : alZ 0 = snD 0 := rfl
          have hS : snP ((q : Int) + 1) 0 0 = snK ((q : Int) + 1) 0 := sn_zero _ rfl
          rw [hS] at HFk
          rw [hal]
          clear hal hS HFull HLen
          generalize snD 0 = d at *
          generalize snK ((q : Int) + 1) 0 = L at *
          have hol2 := Lib.hid (hol.out.call (below_box wr (.cells #[.int .i64 d] 3)))
          have hbx2 := Lib.hid (hbx.out.call (below_box wr (.cells #[.int .i64 d] 3)))
          obtain ⟨d0, d1⟩ := hbx2.out.1
          go_wp2_with fail
          refine (HRep.out _ d _ (by simp) (news_eqI (l := [.int .i64 d]) rfl (heap_alloc_new wr _) 0 _ rfl)).mono ?_
          rintro e w3 ⟨h, ch, rfl, hor, hb⟩
          have hol3 := Lib.hid (hol2.out.call hb)
          have hbx3 := Lib.hid (hbx2.out.call hb)
          have HCs := Lib.hid (hor.cells (g := h) rfl)
          have hsz3 := hol3.out.2.2.1
          clear hb hol hbx hol2 hbx2 hor b0 b1 d0 d1
          go_wp2_with (at_builtin; refine wpList_app rfl (.tmp 22) (.tmp 28) 26 rfl (W.heap.size + 1) 3 i0 _ 1 8 Try.underlying26 hi0 hz0 hz1 hz2 rfl (by decide) _ L.length _ rfl hol3.out.2.2.2 ⟨h, 0, none⟩ q ch (icells (List.replicate q d)) rfl (by simp [icells]) HCs.out (oneCellI _) (L ++ List.replicate q d).length (icells (L ++ List.replicate q d)) (by simp) (by rw [icells_append]) (by simp; unfold maxLen; omega) (by simp; omega) hsz3 ?_; intro A' c' w5 o5 g5; have hn5 := ol_apps hol3.out o5 g5; have HN1 := Lib.hid hn5.1; have HN2 := Lib.hid (box_low hbx3.out hn5.2); clear hn5 o5 g5)
          have hlen : (L ++ List.replicate q d).length = L.length + q := by simp
          rw [hlen, HFk.out] at HN1
          go_roundw
          case rel => exact ⟨0 + 1, by omega, by go_num, by rw [HAl.out], HN1.out, HN2.out⟩
          case measure => (try simp [intOf]); omega
        · have hgt : decide ((0 : Int) < (k : Int)) = true := decide_eq_true (by omega)
          have hS : snK ((q : Int) + 1) k ++ [2] = snP ((q : Int) + 1) k 0 := (sn_down _ (by omega)).symm
          rw [← hS] at HFk
          have HT1 := Lib.hid (fun X => HT.out (alZ k) X)
          have HT2 := Lib.hid (fun X => HT.out (trZ (alZ k)) X)
          rw [al_turn hkz] at HT2
          clear hS HFull HLen
          generalize trZ (alZ k) = t at *
          generalize alZ k = a at *
          generalize snD k = d at *
          generalize snK ((q : Int) + 1) k = L at *
          go_wp2_with (at_builtin; refine wpList_append_lies _ rfl (.tmp 16) (.tmp 17) 26 rfl (W.heap.size + 1) 3 i0 _ 1 8 Try.underlying26 hi0 hz0 hz1 hz2 rfl (by omega) _ (L.length) _ rfl (hol.out.2.2.2.alloc _) ⟨wr.heap.size, 0, none⟩ 1 1 (icells [2]) rfl rfl (news_eqI rfl (heap_alloc_new wr _)) (oneCellI _) (by omega) (by unfold maxLen; omega) (by omega) (by simp; omega) (wr.heap.size + 1) (by simp) ?_; intro gg cap w3 hown' hgrow hat hlt2; clear hlt2; have HAt := Lib.hid hat; clear hat)
          have hn2 := hol.out.app hown' hgrow
          have hol1 := Lib.hid hn2.1
          have hbx1 := Lib.hid (box_low hbx.out hn2.2)
          clear hn2 hown' hgrow HAt hol hbx b0 b1 hsz
          obtain ⟨b0, b1⟩ := hbx1.out.1
          refine (HT1.out _).mono ?_
          rintro e w4 ⟨rfl, rfl⟩
          go_wp2_with fail
          refine (HT2.out _).mono ?_
          rintro e w4 ⟨rfl, rfl⟩
          have hol2 := Lib.hid (hol1.out.call (below_box w3 (.cells #[.int .i64 d] 3)))
          have hbx2 := Lib.hid (hbx1.out.call (below_box w3 (.cells #[.int .i64 d] 3)))
          obtain ⟨d0, d1⟩ := hbx2.out.1
          go_wp2_with fail
          refine (HRep.out _ d _ (by simp) (news_eqI (l := [.int .i64 d]) rfl (heap_alloc_new w3 _) 0 _ rfl)).mono ?_
          rintro e w5 ⟨h, ch, rfl, hor, hb⟩
          have hol3 := Lib.hid (hol2.out.call hb)
          have hbx3 := Lib.hid (hbx2.out.call hb)
          have HCs := Lib.hid (hor.cells (g := h) rfl)
          have hsz3 := hol3.out.2.2.1
          have hL2 : (L ++ [2]).length = L.length + 1 := by simp
          clear hb hol1 hbx1 hol2 hbx2 hor b0 b1 d0 d1
          go_wp2_with (at_builtin; refine wpList_app rfl (.tmp 22) (.tmp 28) 26 rfl (W.heap.size + 1) 3 i0 _ 1 8 Try.underlying26 hi0 hz0 hz1 hz2 rfl (by decide) _ (L ++ [2]).length _ (by simp [Act.eval]) hol3.out.2.2.2 ⟨h, 0, none⟩ q ch (icells (List.replicate q d)) rfl (by simp [icells]) HCs.out (oneCellI _) (L ++ [2] ++ List.replicate q d).length (icells (L ++ [2] ++ List.replicate q d)) (by simp; omega) (by simp only [icells_append]) (by simp; unfold maxLen; omega) (by simp; omega) hsz3 ?_; intro A' c' w6 o5 g5; have hn5 := ol_apps hol3.out o5 g5; have HN1 := Lib.hid hn5.1; have HN2 := Lib.hid (box_low hbx3.out hn5.2); clear hn5 o5 g5)
          have hlen : (L ++ [2] ++ List.replicate q d).length = L.length + (q + 1) := by simp
          rw [hlen, HFk.out] at HN1
          go_roundw
          case rel => exact ⟨k + 1, by omega, by go_num, by rw [HAl.out], HN1.out, HN2.out⟩
          case measure => (try simp [intOf]); omega
      · obtain rfl : k = r := by omega
        rw [HE.out] at hol
        rw [HE.out]
        go_wp2_with fail
        go_ret
        exact HK.out _ _ _ _ rfl hol.out.2.2.2 hol.out.2.1 hol.out.1
  · have HG : Hid (∀ X, Calls Try.prog 46 #[.agg #[.int .i64 x, .int .i64 y]] X (Bl false X)) := Lib.hid fun X => ok_no x y X hok
    have HE : Hid ([] = snL x y) := Lib.hid (by unfold snL; rw [if_neg hok])
    clear hok
    generalize snL x y = F at *
    go_enter Try.func17, Try.ntmps17
    go_wp2_with fail
    refine (HG.out _).mono ?_
    rintro e w1 ⟨rfl, hb⟩
    have hbl1 := Lib.hid (below_call (HB.out _) hb)
    clear hb HB HX HG
    go_wp2_with fail
    go_ret
    exact HK.out _ _ 0 _ (by rw [← HE.out]; rfl) (by rw [← HE.out]; exact World.ownsRow_nil _ W.heap.size 3 1) (Nat.le_refl _) hbl1.out
end Go.Proofs.Ytgocbnnhhpmndaa.entI
