/- The contract of the program's search for the gaps that lead out of a set of cells. -/
import Derived.Test.YthakbjdkcdppjaaGrwI1
import Derived.Test.YthakbjdkcdppjaaGrwQ
import Derived.Test.YthakbjdkcdppjaaEntI1
import Derived.Test.YthakbjdkcdppjaaErsD
import Derived.Test.YthakbjdkcdppjaaGridN
namespace Go.Proofs.Ythakbjdkcdppjaa.grwI
open Go.ChangeShapes Go.WideShapes Go.ChangeAt Go.RowKit Go.Maps
open draw gridP gridC gridE bitP mazeP mazeC mazeM intsP reachP reachM reachN reachD forest intA listK setI wayP ersP ersO entO grwP grwQ grwO
set_option linter.unusedVariables false

/-- What a map of the cells in the maze reads as. -/
def Mg (D : DataW Unit) (I : List Bool) (n : Nat) : Prop := Tidy D ∧ Maps.size D = n ∧ ∀ c : Nat, Maps.has D (.int .i64 (c : Int)) = icB I c ∧ D.atKey (.int .i64 (c : Int)) (.lit (.bool false)) = .lit (.bool (icB I c))
theorem mg_put {D : DataW Unit} {I : List Bool} {n a : Nat} (h : Mg D I n) (ha : a < I.length) : Mg (D.put (.int .i64 (a : Int)) (.lit (.bool true))) (I.set a true) (if icB I a = true then n else n + 1) := by
  obtain ⟨h1, h2, h3⟩ := h
  refine ⟨h1.put (show WideAt.IsKeyLit (.int .i64 (a : Int)) from trivial) _, ?_, fun c => ?_⟩
  · rw [size_put h1, (h3 a).1, h2]
  · rw [ic_set ha]
    by_cases e : c = a
    · subst e
      rw [has_put_same h1.isMap (show WideAt.IsKeyLit (.int .i64 (c : Int)) from trivial), atKey_put_same h1.isMap (show WideAt.IsKeyLit (.int .i64 (c : Int)) from trivial)]
      simp
    · have hne : (Lit.int .i64 (c : Int)) ≠ .int .i64 (a : Int) := fun h' => e (by injection h' with _ h'; omega)
      rw [has_put_other hne, atKey_put_other hne, (h3 c).1, (h3 c).2]
      simp [e]
theorem mg_two {D : DataW Unit} {I : List Bool} {n a b : Nat} (h : Mg D I n) (ha : a < I.length) (hb : b < I.length) (hne : icB I a ≠ icB I b) : Mg ((D.put (.int .i64 (a : Int)) (.lit (.bool true))).put (.int .i64 (b : Int)) (.lit (.bool true))) ((I.set a true).set b true) (n + 1) := by
  have h1 := mg_put h ha
  have h2 := mg_put h1 (a := b) (by rw [List.length_set]; exact hb)
  rw [ic_set ha] at h2
  cases h3 : icB I a with
  | true =>
    have h4 : icB I b = false := by
      cases h5 : icB I b with
      | false => rfl
      | true => exact absurd (h3.trans h5.symm) hne
    have e : b ≠ a := fun e => by rw [e] at h4; rw [h3] at h4; cases h4
    rw [h3, h4] at h2
    simpa [e] using h2
  | false =>
    have h4 : icB I b = true := by
      cases h5 : icB I b with
      | true => rfl
      | false => exact absurd (h3.trans h5.symm) hne
    rw [h3, h4] at h2
    simpa using h2
theorem mg_new (x y : Int) (h : 1 ≤ cN x y) : Mg (Sd [0]) (inS x y) 1 := by
  obtain ⟨h1, h2, h3, h4⟩ := ersD.sd_facts (l := [0]) 1 (Nat.le_refl _)
  have hic : ∀ c, icB (inS x y) c = decide (c = 0) := fun c => by
    unfold inS
    rw [ic_set (by simp; omega)]
    have : icB (List.replicate (cN x y) false) c = false := by
      unfold icB
      rw [List.getD_eq_getElem?_getD, List.getElem?_replicate]
      split <;> rfl
    rw [this]; rfl
  refine ⟨h1, h4.2 (by simp), fun c => ?_⟩
  rw [hic, sd_at]
  have e : decide ((c : Int) ∈ ([0] : List Int)) = decide (c = 0) := by
    rw [decide_eq_decide]; simp
  exact ⟨(h2 (c : Int)).trans e, by rw [e]⟩

/-- The grid's box and the set. -/
def GA (W : World) (x y : Int) (b n : Nat) (D : DataW Unit) (X : World) : Prop := Box W.heap.size x y X ∧ X.ownsMap Try.prog 3 (plainElem Try.prog 4) b n D ∧ b < W.heap.size
section
variable {W X X' : World} {x y : Int} {b n : Nat} {D : DataW Unit}
theorem GA.low {B : Nat} (h : GA W x y b n D X) (hb : Below B X X') (hB : W.heap.size < B) : GA W x y b n D X' := ⟨box_below h.1 hb hB, entI.omap_low h.2.1 hb (by have := h.2.2; omega), h.2.2⟩
theorem GA.call (h : GA W x y b n D X) (hb : Below X.heap.size X X') : GA W x y b n D X' := h.low hb h.1.2
end

set_option maxRecDepth 100000 in
set_option maxHeartbeats 1000000 in
theorem gapsAround_any (x y : Int) (hk : 1 ≤ x ∧ x ≤ 4 ∧ 1 ≤ y ∧ y ≤ 4) (b n : Nat) (D : DataW Unit) (I : List Bool) (W : World) (hs : W.ownsMap Try.prog 3 (plainElem Try.prog 4) b n D)
    (hm : ∀ c : Nat, D.atKey (.int .i64 (c : Int)) (.lit (.bool false)) = .lit (.bool (icB I c))) :
    Calls Try.prog 26 #[.agg #[.int .i64 x, .int .i64 y], .map (some b)] W (Ints (crL x y I) W) := by
  obtain ⟨i0, hi0, hz0, hz1, hz2⟩ := info_parts info_int
  have HK := @Lib.hid _ (fun w' v n' base => @ints_mk (crL x y I) W w' v n' base)
  have HG : Hid (∀ X, Calls Try.prog 46 #[.agg #[.int .i64 x, .int .i64 y]] X (Nm ((gN x y : Nat) : Int) X)) := Lib.hid fun X => by
    have := gaps_any x y X hk.1 hk.2.1 hk.2.2.1 hk.2.2.2
    have e : (x - 1) * y + x * (y - 1) = ((gN x y : Nat) : Int) := by
      have := gps_bd hk.1 hk.2.1 hk.2.2.1 hk.2.2.2
      unfold gN; rw [Int.toNat_of_nonneg this.1]; rfl
    rwa [e] at this
  have HEn : Hid (∀ g : Nat, g < gN x y → (∀ X, Calls Try.prog 29 #[.agg #[.int .i64 x, .int .i64 y], .int .i64 (g : Int)] X (Nm2 ((aN x y g : Nat) : Int) ((bN x y g : Nat) : Int) X)) ∧ aN x y g < cN x y ∧ bN x y g < cN x y) := Lib.hid fun g hg => by
    obtain ⟨l1, l2, l3, l4⟩ := ends_lt hk hg
    refine ⟨fun X => ?_, by omega, l2⟩
    have := gridI.endsOf_any x y g X
    rwa [l3, l4] at this
  obtain ⟨n1, n2, n3⟩ := nn2 hk
  have hC16 : cN x y ≤ 16 := by unfold cN; have := Int.mul_le_mul hk.2.1 hk.2.2.2 (by omega) (by omega); omega
  have HHas : Hid (∀ c : Nat, c < 16 → ∀ X, X.ownsMap Try.prog 3 (plainElem Try.prog 4) b n D → Calls Try.prog 47 #[.map (some b), .int .i64 (c : Int)] X (Bl (icB I c) X)) := Lib.hid fun c hc X h => entI.has_at b n D (icB I c) (c : Int) X h (hm c) (by omega)
  have hG24 : gN x y ≤ 24 := by have := gps_bd hk.1 hk.2.1 hk.2.2.1 hk.2.2.2; unfold gN; omega
  have hga0 : Hid (∀ T, GA W x y b n D (W.alloc (.cells #[.int .i64 x, .int .i64 y] T))) := Lib.hid fun T => ⟨box_new x y W T, entI.omap_low hs (below_box W _) hs.lt, hs.lt⟩
  have hol0 : Hid (∀ T, OL W (W.heap.size + 1) (crK x y I 0) (.slice none 0 0) (W.alloc (.cells #[.int .i64 x, .int .i64 y] T))) := Lib.hid fun T => ol_nil (below_box W _) (Nat.le_succ _) (by simp)
  clear hk hs hm n1 n2 n3
  go_enter Try.func26, Try.ntmps26
  go_wp2_with fail
  refine (HG.out _).mono ?_
  rintro e w1 ⟨rfl, hb⟩
  have hga1 := Lib.hid ((hga0.out 25).call hb)
  have hol1 := Lib.hid ((hol0.out 25).call hb)
  clear hb hga0 hol0 HG
  go_wp2_with fail
  generalize hG : gN x y = G at *
  have HGe := Lib.hid hG
  clear hG
  go_loopw [5, 11] (fun u5 u11 wr => ∃ i : Nat, i ≤ G ∧ u11 = .int .i64 (i : Int) ∧ OL W (W.heap.size + 1) (crK x y I i) u5 wr ∧ GA W x y b n D wr) (fun _ u11 _ => G - (intOf u11).toNat)
  case atStart => exact ⟨0, Nat.zero_le _, rfl, hol1.out, hga1.out⟩
  case round =>
    clear hol1 hga1
    obtain ⟨i, hi, rfl, hol0, hga0⟩ := hrel
    have hol := Lib.hid hol0
    have hga := Lib.hid hga0
    obtain ⟨A5, c5, rfl⟩ := hol0.form
    obtain ⟨⟨b0, b1⟩, -⟩ := hga0.1
    have hk0 : (0 : Int) ≤ (i : Int) := Int.natCast_nonneg _
    clear hol0 hga0
    by_cases hiG : i < G
    · have hi2 : (i : Int) < (G : Int) := by omega
      obtain ⟨hei, hai, hbi⟩ := HEn.out i hiG
      have HEi := Lib.hid hei
      have hll := crK_len x y I i
      have HY := Lib.hid (@crK_yes x y I i)
      have HNo := Lib.hid (@crK_no x y I i)
      have hcb : crB x y I i = (icB I (aN x y i) != icB I (bN x y i)) := rfl
      rw [hcb] at HY HNo
      clear hei hcb
      have HA := Lib.hid (HHas.out (aN x y i) (by omega))
      have HB := Lib.hid (HHas.out (bN x y i) (by omega))
      generalize aN x y i = a at *
      generalize bN x y i = bb at *
      generalize icB I a = va at *
      generalize icB I bb = vb at *
      generalize crK x y I i = L at *
      cases hbv : (va != vb) with
      | true =>
        have HYe := Lib.hid (HY.out hbv)
        clear HY HNo
        rcases (show (va = true ∧ vb = false) ∨ (va = false ∧ vb = true) by revert hbv; cases va <;> cases vb <;> simp) with ⟨rfl, rfl⟩ | ⟨rfl, rfl⟩ <;> (
          go_wp2_with fail
          refine (HEi.out _).mono ?_
          rintro e w5 ⟨rfl, hb⟩
          have hol5 := Lib.hid (hol.out.call hb)
          have hga5 := Lib.hid (hga.out.call hb)
          clear hb hol hga b0 b1
          go_wp2_with fail
          refine (HA.out _ hga5.out.2.1).mono ?_
          rintro e w6 ⟨rfl, hb⟩
          have hol6 := Lib.hid (hol5.out.call hb)
          have hga6 := Lib.hid (hga5.out.call hb)
          clear hb hol5 hga5
          go_wp2_with fail
          refine (HB.out _ hga6.out.2.1).mono ?_
          rintro e w7 ⟨rfl, hb⟩
          have hol7 := Lib.hid (hol6.out.call hb)
          have hga7 := Lib.hid (hga6.out.call hb)
          clear hb hol6 hga6
          have hsz := hol7.out.2.2.1
          go_wp2_with (at_builtin; refine wpList_append_lies _ rfl (.tmp 27) (.tmp 29) 26 rfl (W.heap.size + 1) 3 i0 _ 1 8 Try.underlying26 hi0 hz0 hz1 hz2 rfl (by omega) _ (L.length) _ rfl (hol7.out.2.2.2.alloc _) ⟨w7.heap.size, 0, none⟩ 1 1 (icells [i]) rfl rfl (news_eqI rfl (heap_alloc_new w7 _)) (oneCellI _) (by omega) (by unfold maxLen; omega) (by omega) (by simp; omega) (w7.heap.size + 1) (by simp) ?_; intro gg cap w3 hown' hgrow hat hlt2; clear hlt2; have HAt := Lib.hid hat; clear hat)
          have hn2 := hol7.out.app hown' hgrow
          have HN1 := Lib.hid hn2.1
          have HN2 := Lib.hid (GA.low hga7.out hn2.2 (Nat.lt_succ_self _))
          go_roundw
          case rel => exact ⟨i + 1, by omega, by go_num, by rw [HYe.out]; exact HN1.out, HN2.out⟩
          case measure => (try simp [intOf]); omega)
      | false =>
        have HNe := Lib.hid (HNo.out hbv)
        clear HY HNo
        obtain rfl : va = vb := by revert hbv; cases va <;> cases vb <;> simp
        cases va <;> (
          go_wp2_with fail
          refine (HEi.out _).mono ?_
          rintro e w5 ⟨rfl, hb⟩
          have hol5 := Lib.hid (hol.out.call hb)
          have hga5 := Lib.hid (hga.out.call hb)
          clear hb hol hga b0 b1
          go_wp2_with fail
          refine (HA.out _ hga5.out.2.1).mono ?_
          rintro e w6 ⟨rfl, hb⟩
          have hol6 := Lib.hid (hol5.out.call hb)
          have hga6 := Lib.hid (hga5.out.call hb)
          clear hb hol5 hga5
          go_wp2_with fail
          refine (HB.out _ hga6.out.2.1).mono ?_
          rintro e w7 ⟨rfl, hb⟩
          have hol7 := Lib.hid (hol6.out.call hb)
          have hga7 := Lib.hid (hga6.out.call hb)
          clear hb hol6 hga6
          go_wp2_with fail
          go_roundw
          case rel => exact ⟨i + 1, by omega, by go_num, by rw [HNe.out]; exact hol7.out, hga7.out⟩
          case measure => (try simp [intOf]); omega)
    · obtain rfl : i = G := by omega
      have hcl : crK x y I i = crL x y I := by unfold crL; rw [HGe.out]
      rw [hcl] at hol ⊢
      clear hcl
      generalize crL x y I = L at *
      go_wp2_with fail
      go_ret
      exact HK.out _ _ _ _ rfl hol.out.2.2.2 hol.out.2.1 hol.out.1
end Go.Proofs.Ythakbjdkcdppjaa.grwI
