/- WithoutRow: for every argument the program's answer is the model's and owns its memory, and the arguments read as before. -/
import Derived.Test.YthgnhamokikhkaaRowsL
import Derived.Test.YthgnhamokikhkaaMatR
import Derived.Test.YthgnhamokikhkaaDetI6
namespace Go.Proofs.Ythgnhamokikhkaa.fnExactWithoutRow
open Go.ChangeShapes Go.WideShapes Go.ChangeAt Go.RowKit
open gridC mazeC mazeR gridR rowsP rowsL matP matR matQ matM matO detI intsP intK intA listK lawKit reachD draw
set_option linter.unusedVariables false

/-- The law's answer. -/
def Yes (w : World) (e : Ending) (w' : World) : Prop := e = .returned (.bool true) ∧ Below w.heap.size w w'
theorem yes_mk {w w' : World} (h : Below w.heap.size w w') : Yes w (.returned (.bool true)) w' := ⟨rfl, h⟩

set_option maxRecDepth 100000 in
set_option maxHeartbeats 2000000 in
theorem walk_at (A0 : Option Addr) (n0 c0 : Nat) (l0 : List (List Int)) (a1 : Int) (r0 : List (List Int)) (W : World) (hn0 : l0.length = n0) (hmx0 : n0 ≤ maxLen) (hsx0 : ∀ u ∈ l0, u.length ≤ maxLen) (hi0 : MxIn W W.heap.size A0 l0)  (hl0 : r0.length ≤ 1000 ∧ ∀ l ∈ r0, l.length ≤ 1000)
    (HS : Hid (∀ A0 n0 c0 X, l0.length = n0 → n0 ≤ 1048576 → (∀ u ∈ l0, u.length ≤ 1048576) → MxIn X X.heap.size A0 l0 → Calls Try.prog 57 #[.slice A0 n0 c0, .int .i64 a1] X (Mtx r0 X)))
    (HI : Hid (∀ A0 n0 c0 X, l0.length = n0 → n0 ≤ 1048576 → (∀ u ∈ l0, u.length ≤ 1048576) → MxIn X X.heap.size A0 l0 → Calls Try.prog 36 #[.slice A0 n0 c0, .int .i64 a1] X (Mtx r0 X))) :
    Calls Try.prog 12 #[.slice A0 n0 c0, .int .i64 a1] W (Yes W) := by
  have HK := @Lib.hid _ (fun w' b => @yes_mk W w' b)
  have HY0 := Lib.hid hi0
  have Hn0 := Lib.hid hn0
  have HX0 := Lib.hid hsx0
  clear hsx0
  have HL0 := Lib.hid hl0
  clear hl0
  have HT0 : Hid (1 + toN r0 ≤ 3000000) := Lib.hid (by have h1 := toN_bd HL0.out.2; have h2 : r0.length * 1000 ≤ 1000 * 1000 := Nat.mul_le_mul_right 1000 HL0.out.1; omega)
  clear hi0 hn0
  go_enter Try.func12, Try.ntmps12
  have hbl := Lib.hid (Below.refl W.heap.size W)
  go_wp2_with fail
  refine (rowsL.szIntSS_any A0 n0 c0 l0 1048576 _ Hn0.out hmx0 HX0.out (by decide) ((HY0.out.below hbl.out).more hbl.out.size)).mono ?_
  rintro e w1 ⟨q, rfl, hb, hq⟩
  replace hbl := Lib.hid (below_call hbl.out hb)
  clear hb
  rcases hq with hq | ⟨hq, hsz⟩
  · have hq2 : decide (q < 0) = true := decide_eq_true hq
    clear hq
    go_wp2_with fail
    go_ret
    exact HK.out _ hbl.out
  have hq2 : decide (q < 0) = false := decide_eq_false (by omega)
  have hm0 : n0 ≤ 1048576 := by omega
  have hs0 : Hid (∀ u ∈ l0, u.length ≤ 1048576) := Lib.hid fun u hu => by have := len_toN hu; omega
  have HT0l : Hid (1 + toN l0 ≤ 3000000) := Lib.hid (by omega)
  clear hsz hq
  go_wp2_with fail
  refine (rowsL.toIntSS_any A0 n0 c0 l0 _ Hn0.out.symm hm0 hs0.out ((HY0.out.below hbl.out).more hbl.out.size)).mono ?_
  rintro e w2 ⟨vt0, rfl, ho, hb⟩
  have h_t0 := Lib.hid ho
  clear ho
  have UW_t0 := Lib.hid hbl.out.size
  replace hbl := Lib.hid (below_call hbl.out hb)
  clear hb
  have LT_t0 := Lib.hid (Nat.le_refl w2.heap.size)
  obtain ⟨A_t0, k_t0, rfl⟩ := h_t0.out.form
  go_wp2_with fail
  refine (HS.out A_t0 _ k_t0 _ rfl (by have := Hn0.out; omega) hs0.out (MxOw.read h_t0.out)).mono ?_
  rintro e w3 ⟨vw0, rfl, ho, hb⟩
  have LE_t0_w0 := LT_t0
  have h_w0 := Lib.hid ho
  clear ho
  have UW_w0 := Lib.hid hbl.out.size
  replace hbl := Lib.hid (below_call hbl.out hb)
  replace h_t0 := Lib.hid (MxOw.call h_t0.out hb)
  replace LT_t0 := Lib.hid (Nat.le_trans LT_t0.out hb.size)
  clear hb
  have LT_w0 := Lib.hid (Nat.le_refl w3.heap.size)
  obtain ⟨A_w0, k_w0, rfl⟩ := h_w0.out.form
  go_wp2_with fail
  refine (rowsL.toIntSS_any A0 n0 c0 l0 _ Hn0.out.symm hm0 hs0.out ((HY0.out.below hbl.out).more hbl.out.size)).mono ?_
  rintro e w4 ⟨vx0, rfl, ho, hb⟩
  have LE_t0_x0 := LT_t0
  have LE_w0_x0 := LT_w0
  have h_x0 := Lib.hid ho
  clear ho
  have UW_x0 := Lib.hid hbl.out.size
  replace hbl := Lib.hid (below_call hbl.out hb)
  replace h_t0 := Lib.hid (MxOw.call h_t0.out hb)
  replace LT_t0 := Lib.hid (Nat.le_trans LT_t0.out hb.size)
  replace h_w0 := Lib.hid (MxOw.call h_w0.out hb)
  replace LT_w0 := Lib.hid (Nat.le_trans LT_w0.out hb.size)
  clear hb
  have LT_x0 := Lib.hid (Nat.le_refl w4.heap.size)
  obtain ⟨A_x0, k_x0, rfl⟩ := h_x0.out.form
  go_wp2_with fail
  refine (HI.out A_x0 _ k_x0 _ rfl (by have := Hn0.out; omega) hs0.out (MxOw.read h_x0.out)).mono ?_
  rintro e w5 ⟨vg0, rfl, ho, hb⟩
  have LE_t0_g0 := LT_t0
  have LE_w0_g0 := LT_w0
  have LE_x0_g0 := LT_x0
  have h_g0 := Lib.hid ho
  clear ho
  have UW_g0 := Lib.hid hbl.out.size
  replace hbl := Lib.hid (below_call hbl.out hb)
  replace h_t0 := Lib.hid (MxOw.call h_t0.out hb)
  replace LT_t0 := Lib.hid (Nat.le_trans LT_t0.out hb.size)
  replace h_w0 := Lib.hid (MxOw.call h_w0.out hb)
  replace LT_w0 := Lib.hid (Nat.le_trans LT_w0.out hb.size)
  replace h_x0 := Lib.hid (MxOw.call h_x0.out hb)
  replace LT_x0 := Lib.hid (Nat.le_trans LT_x0.out hb.size)
  clear hb
  have LT_g0 := Lib.hid (Nat.le_refl w5.heap.size)
  obtain ⟨A_g0, k_g0, rfl⟩ := h_g0.out.form
  go_wp2_with fail
  refine (rowsL.eq_b _ _ _ _ _ _ r0.length r0 _ rfl (Nat.le_trans HL0.out.1 (by decide)) (fun l h => Nat.le_trans (HL0.out.2 l h) (by decide)) h_g0.out h_w0.out).mono ?_
  rintro e w6 ⟨rfl, hb⟩
  replace hbl := Lib.hid (below_call hbl.out hb)
  replace h_t0 := Lib.hid (MxOw.call h_t0.out hb)
  replace LT_t0 := Lib.hid (Nat.le_trans LT_t0.out hb.size)
  replace h_w0 := Lib.hid (MxOw.call h_w0.out hb)
  replace LT_w0 := Lib.hid (Nat.le_trans LT_w0.out hb.size)
  replace h_x0 := Lib.hid (MxOw.call h_x0.out hb)
  replace LT_x0 := Lib.hid (Nat.le_trans LT_x0.out hb.size)
  replace h_g0 := Lib.hid (MxOw.call h_g0.out hb)
  replace LT_g0 := Lib.hid (Nat.le_trans LT_g0.out hb.size)
  clear hb
  clear h_t0 LT_t0
  go_wp2_with fail
  refine (rowsL.toIntSS_any A0 n0 c0 l0 _ Hn0.out.symm hm0 hs0.out ((HY0.out.below hbl.out).more hbl.out.size)).mono ?_
  rintro e w7 ⟨vt2, rfl, ho, hb⟩
  have LE_w0_t2 := LT_w0
  have LE_x0_t2 := LT_x0
  have LE_g0_t2 := LT_g0
  have h_t2 := Lib.hid ho
  clear ho
  have UW_t2 := Lib.hid hbl.out.size
  replace hbl := Lib.hid (below_call hbl.out hb)
  replace h_w0 := Lib.hid (MxOw.call h_w0.out hb)
  replace LT_w0 := Lib.hid (Nat.le_trans LT_w0.out hb.size)
  replace h_x0 := Lib.hid (MxOw.call h_x0.out hb)
  replace LT_x0 := Lib.hid (Nat.le_trans LT_x0.out hb.size)
  replace h_g0 := Lib.hid (MxOw.call h_g0.out hb)
  replace LT_g0 := Lib.hid (Nat.le_trans LT_g0.out hb.size)
  clear hb
  have LT_t2 := Lib.hid (Nat.le_refl w7.heap.size)
  obtain ⟨A_t2, k_t2, rfl⟩ := h_t2.out.form
  go_wp2_with fail
  refine (rowsL.eq_b _ _ _ _ _ _ l0.length l0 _ rfl (by have := Hn0.out; omega) (fun l h => Nat.le_trans (hs0.out l h) (by decide)) h_x0.out h_t2.out).mono ?_
  rintro e w8 ⟨rfl, hb⟩
  replace hbl := Lib.hid (below_call hbl.out hb)
  replace h_w0 := Lib.hid (MxOw.call h_w0.out hb)
  replace LT_w0 := Lib.hid (Nat.le_trans LT_w0.out hb.size)
  replace h_x0 := Lib.hid (MxOw.call h_x0.out hb)
  replace LT_x0 := Lib.hid (Nat.le_trans LT_x0.out hb.size)
  replace h_g0 := Lib.hid (MxOw.call h_g0.out hb)
  replace LT_g0 := Lib.hid (Nat.le_trans LT_g0.out hb.size)
  replace h_t2 := Lib.hid (MxOw.call h_t2.out hb)
  replace LT_t2 := Lib.hid (Nat.le_trans LT_t2.out hb.size)
  clear hb
  clear h_t2 LT_t2
  go_wp2_with fail
  refine (rowsL.mark_one (.slice A_x0 l0.length k_x0) _ _ l0.length 1 1 l0 _ rfl rfl (by decide) (by have := Hn0.out; omega) HT0l.out h_x0.out).mono ?_
  rintro e w9 ⟨rfl, ho, hg⟩
  replace h_x0 := Lib.hid ho
  clear ho
  replace hbl := Lib.hid (KeptO.below hg hbl.out UW_x0.out hbl.out.size)
  replace h_w0 := Lib.hid (KeptO.mx hg h_w0.out (.inl LE_w0_x0.out))
  replace h_g0 := Lib.hid (KeptO.mx hg h_g0.out (.inr LE_x0_g0.out))
  replace LT_w0 := Lib.hid (Nat.le_trans LT_w0.out hg.2.2.2.1)
  replace LT_x0 := Lib.hid (Nat.le_trans LT_x0.out hg.2.2.2.1)
  replace LT_g0 := Lib.hid (Nat.le_trans LT_g0.out hg.2.2.2.1)
  clear hg
  go_wp2_with fail
  refine (rowsL.eq_b _ _ _ _ _ _ r0.length r0 _ rfl (Nat.le_trans HL0.out.1 (by decide)) (fun l h => Nat.le_trans (HL0.out.2 l h) (by decide)) h_g0.out h_w0.out).mono ?_
  rintro e w10 ⟨rfl, hb⟩
  replace hbl := Lib.hid (below_call hbl.out hb)
  replace h_w0 := Lib.hid (MxOw.call h_w0.out hb)
  replace LT_w0 := Lib.hid (Nat.le_trans LT_w0.out hb.size)
  replace h_x0 := Lib.hid (MxOw.call h_x0.out hb)
  replace LT_x0 := Lib.hid (Nat.le_trans LT_x0.out hb.size)
  replace h_g0 := Lib.hid (MxOw.call h_g0.out hb)
  replace LT_g0 := Lib.hid (Nat.le_trans LT_g0.out hb.size)
  clear hb
  go_wp2_with fail
  refine (rowsL.mark_one (.slice A_g0 r0.length k_g0) _ _ r0.length 1 1 r0 _ rfl rfl (by decide) (Nat.le_trans HL0.out.1 (by decide)) HT0.out h_g0.out).mono ?_
  rintro e w11 ⟨rfl, ho, hg⟩
  replace h_g0 := Lib.hid ho
  clear ho
  replace hbl := Lib.hid (KeptO.below hg hbl.out UW_g0.out hbl.out.size)
  replace h_w0 := Lib.hid (KeptO.mx hg h_w0.out (.inl LE_w0_g0.out))
  replace h_x0 := Lib.hid (KeptO.mx hg h_x0.out (.inl LE_x0_g0.out))
  replace LT_w0 := Lib.hid (Nat.le_trans LT_w0.out hg.2.2.2.1)
  replace LT_x0 := Lib.hid (Nat.le_trans LT_x0.out hg.2.2.2.1)
  replace LT_g0 := Lib.hid (Nat.le_trans LT_g0.out hg.2.2.2.1)
  clear hg
  go_wp2_with fail
  refine (rowsL.held_any (.slice A_g0 r0.length k_g0) _ _ r0.length 1 1 r0 _ rfl rfl (by decide) (Nat.le_trans HL0.out.1 (by decide)) HT0.out h_g0.out).mono ?_
  rintro e w12 ⟨rfl, hb⟩
  replace hbl := Lib.hid (below_call hbl.out hb)
  replace h_w0 := Lib.hid (MxOw.call h_w0.out hb)
  replace LT_w0 := Lib.hid (Nat.le_trans LT_w0.out hb.size)
  replace h_x0 := Lib.hid (MxOw.call h_x0.out hb)
  replace LT_x0 := Lib.hid (Nat.le_trans LT_x0.out hb.size)
  replace h_g0 := Lib.hid (MxOw.call h_g0.out hb)
  replace LT_g0 := Lib.hid (Nat.le_trans LT_g0.out hb.size)
  clear hb
  have hne : (((1 + toN r0 : Nat) : Int) != ((1 + toN r0 : Nat) : Int)) = false := by simp
  have hne2 : ((1 : Int) + (toN r0 : Int) != (1 : Int) + (toN r0 : Int)) = false := by simp
  go_wp2_with fail
  refine (rowsL.toIntSS_any A0 n0 c0 l0 _ Hn0.out.symm hm0 hs0.out ((HY0.out.below hbl.out).more hbl.out.size)).mono ?_
  rintro e w13 ⟨vt3, rfl, ho, hb⟩
  have LE_w0_t3 := LT_w0
  have LE_x0_t3 := LT_x0
  have LE_g0_t3 := LT_g0
  have h_t3 := Lib.hid ho
  clear ho
  have UW_t3 := Lib.hid hbl.out.size
  replace hbl := Lib.hid (below_call hbl.out hb)
  replace h_w0 := Lib.hid (MxOw.call h_w0.out hb)
  replace LT_w0 := Lib.hid (Nat.le_trans LT_w0.out hb.size)
  replace h_x0 := Lib.hid (MxOw.call h_x0.out hb)
  replace LT_x0 := Lib.hid (Nat.le_trans LT_x0.out hb.size)
  replace h_g0 := Lib.hid (MxOw.call h_g0.out hb)
  replace LT_g0 := Lib.hid (Nat.le_trans LT_g0.out hb.size)
  clear hb
  have LT_t3 := Lib.hid (Nat.le_refl w13.heap.size)
  obtain ⟨A_t3, k_t3, rfl⟩ := h_t3.out.form
  go_wp2_with fail
  refine (HI.out A_t3 _ k_t3 _ rfl (by have := Hn0.out; omega) hs0.out (MxOw.read h_t3.out)).mono ?_
  rintro e w14 ⟨vh0, rfl, ho, hb⟩
  have LE_w0_h0 := LT_w0
  have LE_x0_h0 := LT_x0
  have LE_g0_h0 := LT_g0
  have LE_t3_h0 := LT_t3
  have h_h0 := Lib.hid ho
  clear ho
  have UW_h0 := Lib.hid hbl.out.size
  replace hbl := Lib.hid (below_call hbl.out hb)
  replace h_w0 := Lib.hid (MxOw.call h_w0.out hb)
  replace LT_w0 := Lib.hid (Nat.le_trans LT_w0.out hb.size)
  replace h_x0 := Lib.hid (MxOw.call h_x0.out hb)
  replace LT_x0 := Lib.hid (Nat.le_trans LT_x0.out hb.size)
  replace h_g0 := Lib.hid (MxOw.call h_g0.out hb)
  replace LT_g0 := Lib.hid (Nat.le_trans LT_g0.out hb.size)
  replace h_t3 := Lib.hid (MxOw.call h_t3.out hb)
  replace LT_t3 := Lib.hid (Nat.le_trans LT_t3.out hb.size)
  clear hb
  have LT_h0 := Lib.hid (Nat.le_refl w14.heap.size)
  obtain ⟨A_h0, k_h0, rfl⟩ := h_h0.out.form
  go_wp2_with fail
  refine (rowsL.eq_b _ _ _ _ _ _ r0.length r0 _ rfl (Nat.le_trans HL0.out.1 (by decide)) (fun l h => Nat.le_trans (HL0.out.2 l h) (by decide)) h_h0.out h_w0.out).mono ?_
  rintro e w15 ⟨rfl, hb⟩
  replace hbl := Lib.hid (below_call hbl.out hb)
  replace h_w0 := Lib.hid (MxOw.call h_w0.out hb)
  replace LT_w0 := Lib.hid (Nat.le_trans LT_w0.out hb.size)
  replace h_x0 := Lib.hid (MxOw.call h_x0.out hb)
  replace LT_x0 := Lib.hid (Nat.le_trans LT_x0.out hb.size)
  replace h_g0 := Lib.hid (MxOw.call h_g0.out hb)
  replace LT_g0 := Lib.hid (Nat.le_trans LT_g0.out hb.size)
  replace h_t3 := Lib.hid (MxOw.call h_t3.out hb)
  replace LT_t3 := Lib.hid (Nat.le_trans LT_t3.out hb.size)
  replace h_h0 := Lib.hid (MxOw.call h_h0.out hb)
  replace LT_h0 := Lib.hid (Nat.le_trans LT_h0.out hb.size)
  clear hb
  clear h_t3 LT_t3
  go_wp2_with fail
  refine (rowsL.held_any (.slice A_g0 r0.length k_g0) _ _ r0.length 1 1 r0 _ rfl rfl (by decide) (Nat.le_trans HL0.out.1 (by decide)) HT0.out h_g0.out).mono ?_
  rintro e w16 ⟨rfl, hb⟩
  replace hbl := Lib.hid (below_call hbl.out hb)
  replace h_w0 := Lib.hid (MxOw.call h_w0.out hb)
  replace LT_w0 := Lib.hid (Nat.le_trans LT_w0.out hb.size)
  replace h_x0 := Lib.hid (MxOw.call h_x0.out hb)
  replace LT_x0 := Lib.hid (Nat.le_trans LT_x0.out hb.size)
  replace h_g0 := Lib.hid (MxOw.call h_g0.out hb)
  replace LT_g0 := Lib.hid (Nat.le_trans LT_g0.out hb.size)
  replace h_h0 := Lib.hid (MxOw.call h_h0.out hb)
  replace LT_h0 := Lib.hid (Nat.le_trans LT_h0.out hb.size)
  clear hb
  go_wp2_with fail
  go_ret
  exact HK.out _ hbl.out

set_option maxRecDepth 100000 in
theorem walk (A0 : Option Addr) (n0 c0 : Nat) (l0 : List (List Int)) (a1 : Int) (W : World) (hn0 : l0.length = n0) (hmx0 : n0 ≤ maxLen) (hsx0 : ∀ u ∈ l0, u.length ≤ maxLen) (hi0 : MxIn W W.heap.size A0 l0) (w1 : (Lit.int .i64 a1).wf = true) :
    Calls Try.prog 12 #[.slice A0 n0 c0, .int .i64 a1] W (Yes W) := by
  exact walk_at A0 n0 c0 l0 a1 (woL l0 a1) W hn0 hmx0 hsx0 hi0 (⟨Nat.le_trans (woL_len l0 a1).1 (by decide), fun l h => Nat.le_trans ((woL_len l0 a1).2 l h) (by decide)⟩)
    (Lib.hid (fun A0 n0 c0 X e0 m0 z0 y0 => withoutRow_any A0 n0 c0 l0 a1 X e0 m0 z0 y0))
    (Lib.hid (fun A0 n0 c0 X e0 m0 z0 y0 => withoutRowI_any A0 n0 c0 l0 a1 X e0 m0 z0 y0))

set_option maxRecDepth 100000 in
theorem lifted (os : Os) (started : os.Started) (H : Type) (enc : TypeId × Value → H) :
    ReturnsInHanded {} Try.checked os 12 .any (Rows.fnExactWithoutRowSpec.pre6 enc Try.prog Try.f12 Rows.fnExactWithoutRowRow.domain false) (Rows.fnExactWithoutRowSpec.post enc Try.prog Try.f12 false true false false) := by
  refine returnsInHanded_of_change (C := Try.checked) own started (by kernel_rfl) Try.func12
    (ChangeSpec.witness6 (enc := enc) (C := Try.checked) false ⟨#[], #[.slice none 0 0, .int .i64 0], []⟩ 8 (by kernel_rfl) (by kernel_rfl) (by kernel_rfl) (by kernel_rfl)) ?_
  intro W base args ds gs before hval0 hW _ _
  have hval : ∀ (j : Nat) t v, Try.f12.params[j]? = some t → args[j]? = some v → Value.okWide Try.prog W .any base t v := hval0
  have hW' := hW
  obtain ⟨p, q, hA0, hV, rfl, hfz, hnd⟩ := hW
  have hA : DataW.TrodAll enc Try.prog W 0 (fun _ => true) true Try.f12.params.toList args.toList ds p := hA0
  rw [Try.params12] at hA hval
  obtain ⟨v0, vs0, d0, ds0, p0, q0, hargs, rfl, rfl, h0, r0⟩ := trodAll_cons hA
  obtain ⟨v1, vs1, d1, ds1, p1, q1, rfl, rfl, rfl, h1, r1⟩ := trodAll_cons r0
  obtain ⟨rfl, rfl, rfl⟩ := trodAll_nil r1
  obtain rfl : args = #[v0, v1] := by cases args; simp_all
  obtain ⟨rfl, rfl⟩ := trodVars_none hV
  clear hA0 hval0
  simp only [List.append_nil] at hW'
  have hlt0 : ∀ x ∈ p0, x.block < W.heap.size := fun x hx => by simpa using hW'.lt x (by simp [hx])
  obtain ⟨A0, c0, l0, rfl, hn0, hu0, hb0⟩ := rowsP.open_rowS Try.underlying38 Try.underlying34 Try.underlying3 rowsL.cellsRow mazeR.cellsInt (hval 0 38 v0 rfl rfl) h0 hlt0
  obtain ⟨a1, rfl, rfl, rfl, w1⟩ := open_int Try.underlying3 (hval 1 3 v1 rfl rfl) h1
  refine (walk A0 l0.length c0 l0 a1 W rfl hn0 hu0 hb0 w1).mono fun e W' ⟨he, hg⟩ => ?_
  subst he
  exact ⟨_, rfl, post_below (pa := _) (pv := []) hW' (fun _ _ _ => (trodAll_cons_mk (shut_bool Try.underlying4 _) trodAll_mk0)) (fun sp hsp => (trodAll_cons_mk (WideElems.Trod_stays laidOut (by kernel_rfl) (of_decide_eq_true (by kernel_rfl)) h0 (fun x hx => hg.same (hlt0 x hx)) (fun p hp => hsp p (by simp [hp]))) (trodAll_cons_mk (shut_int Try.underlying3 w1) trodAll_mk0))) (fun _ _ => rfl) (by simp)
    hg (ok_one (by kernel_rfl) rfl (okWide_bool_mk Try.underlying4 _))⟩

theorem over : Rows.fnExactWithoutRowRow.holds Try.pinned (OpenSpec.ofChange Rows.fnExactWithoutRowSpec) :=
  OpenClaim.holds_of_wide 12 Try.f12 rfl rfl rfl rfl rfl rfl rfl ⟨rfl, rfl, rfl, rfl, rfl⟩ rfl rfl rfl rfl rfl (by kernel_rfl) Try.func12 (by kernel_rfl)
    (of_decide_eq_true (by kernel_rfl)) (by unfold Func.isWrapper; first | (rw [if_pos (by decide +kernel)]; kernel_rfl) | (rw [if_neg (by decide +kernel)]; exact ⟨rfl, rfl⟩))
    (fun os started H enc _ => lifted os started H enc)

theorem proved : Rows.FnExactWithoutRowSaid :=
  over
end Go.Proofs.Ythgnhamokikhkaa.fnExactWithoutRow
