/- The contract of the program's function on valid square matrices. -/
import Derived.Test.YthgnhamokikhkaaMatP
import Derived.Test.YthgnhamokikhkaaRowsP
namespace Go.Proofs.Ythgnhamokikhkaa.detI
open Go.ChangeShapes Go.WideShapes Go.ChangeAt Go.RowKit
open draw gridC mazeC intsP reachD intA intK listK rowsP matP
set_option linter.unusedVariables false

set_option maxRecDepth 100000 in
set_option maxHeartbeats 2000000 in
theorem isSquareRow_any (A : Option Addr) (n c m : Nat) (l : List Int) (W : World) (hn : l.length = n) (hm : n ≤ 1048576) (hm2 : m ≤ 1048576) (hi : IntsIn W W.heap.size A l) :
    Calls Try.prog 94 #[.slice A n c, .int .i64 m] W (Bl (rowB m l) W) := by
  have HI := Lib.hid hi
  have Hn := Lib.hid hn
  have HR := Lib.hid (Below.refl W.heap.size W)
  have HK := @Lib.hid _ (fun w' v e b => @bl_mk v (rowB m l) W w' e b)
  have Hbad : Hid (∀ z ∈ l, ¬ (-16 ≤ z ∧ z ≤ 16) → false = rowB m l) := Lib.hid fun z hz h => (row_bad hz h).symm
  have hm0 : (0 : Int) ≤ (m : Int) := Int.natCast_nonneg _
  have hn0 : (0 : Int) ≤ (n : Int) := Int.natCast_nonneg _
  clear hi
  by_cases hlen : n = m
  · subst hlen
    have hnn : ((n : Int) != (n : Int)) = false := by simp
    have Hrow : Hid ((∀ z ∈ l, -16 ≤ z ∧ z ≤ 16) → decide (abS l ≤ 16) = rowB n l) := Lib.hid fun h => by
      unfold rowB
      rw [decide_eq_true hn, Bool.true_and, List.all_eq_true.2 fun z hz => decide_eq_true (h z hz), Bool.true_and]
    clear hn
    go_enter Try.func94, Try.ntmps94
    go_wp2_with fail
    go_loopw [5, 14] (fun u5 u14 wq => ∃ k : Nat, k ≤ n ∧ u14 = .int .i64 k ∧ u5 = .int .i64 (abS (l.take k)) ∧ (∀ z ∈ l.take k, -16 ≤ z ∧ z ≤ 16) ∧ Below W.heap.size W wq) (fun _ u14 _ => n - (intOf u14).toNat)
    case atStart => exact ⟨0, Nat.zero_le _, rfl, rfl, fun z hz => by simp at hz, HR.out⟩
    case round =>
      obtain ⟨k, hk, rfl, rfl, hr0, hb0⟩ := hrel
      have hrg := Lib.hid hr0
      have hbl := Lib.hid hb0
      obtain ⟨a1, a2⟩ := abS_bd hr0
      rw [List.length_take] at a2
      clear hr0 hb0 HR
      have hk0 : (0 : Int) ≤ (k : Int) := Int.natCast_nonneg _
      by_cases hkn : k < n
      · have hk1 : (k : Int) < (n : Int) := by omega
        have hd : decide ((k : Int) < (n : Int)) = true := decide_eq_true hk1
        obtain ⟨z, hz⟩ : ∃ z, l[k]? = some z := ⟨l[k]'(by have := Hn.out; omega), List.getElem?_eq_getElem (by have := Hn.out; omega)⟩
        obtain ⟨ad2, rfl, hab2, ez⟩ := ints_cell (HI.out.below hbl.out) hz
        have HB := Lib.hid (Hbad.out z (List.mem_of_getElem? hz))
        clear Hbad
        by_cases hz1 : z < -16
        · have h1 : decide (z < -16) = true := decide_eq_true hz1
          have HB2 := Lib.hid (HB.out (by omega))
          clear hz HB
          go_wp2_with fail
          go_ret
          exact HK.out _ _ HB2.out hbl.out
        · have h1 : decide (z < -16) = false := decide_eq_false hz1
          by_cases hz2 : 16 < z
          · have h2 : decide (16 < z) = true := decide_eq_true hz2
            have HB2 := Lib.hid (HB.out (by omega))
            clear hz HB
            go_wp2_with fail
            go_ret
            exact HK.out _ _ HB2.out hbl.out
          · have h2 : decide (16 < z) = false := decide_eq_false hz2
            have HS := Lib.hid (show abS (l.take (k + 1)) = abS (l.take k) + (if z < -z then -z else z) by rw [abS_next hz, Int.max_def]; split <;> split <;> omega)
            have HG : Hid (∀ y ∈ l.take (k + 1), -16 ≤ y ∧ y ≤ 16) := Lib.hid fun y hy => by
              rw [List.take_add_one, hz] at hy
              rcases List.mem_append.1 hy with h | h
              · exact hrg.out y h
              · have : y = z := by simpa using h
                rw [this]; omega
            clear hz HB
            have z0 : -16 ≤ z := by omega
            have z1 : z ≤ 16 := by omega
            generalize hs : abS (l.take k) = s at *
            generalize hs2 : abS (l.take (k + 1)) = s2 at *
            go_wp2_with fail
            go_roundw
            case rel => exact ⟨k + 1, by omega, by go_num, by rw [hs2, HS.out], HG.out, hbl.out⟩
            case measure => simp [intOf]; omega
      · obtain rfl : k = n := by omega
        have hd : decide ((k : Int) < (k : Int)) = false := by simp
        have e1 : l.take k = l := List.take_of_length_le (by have := Hn.out; omega)
        rw [e1] at hrg a1 a2 ⊢
        have HE := Lib.hid (Hrow.out hrg.out)
        generalize abS l = s at *
        go_wp2_with fail
        go_ret
        exact HK.out _ _ HE.out hbl.out
  · have hnn : ((n : Int) != (m : Int)) = true := by rw [bne_iff_ne]; omega
    have HB : Hid (false = rowB m l) := Lib.hid (by unfold rowB; rw [decide_eq_false (by omega)]; rfl)
    clear Hbad hn
    go_enter Try.func94, Try.ntmps94
    go_wp2_with fail
    go_ret
    exact HK.out _ _ HB.out HR.out

/-- A function answers whether a row is so, in every world that goes on from W. -/
def LikesR (g : Nat) (cb : Array Value) (W : World) (p : List Int → Bool) : Prop :=
  ∀ (A : Option Addr) (n c : Nat) (l : List Int) (X : World), l.length = n → n ≤ 1048576 → IntsIn X X.heap.size A l → Below W.heap.size W X → Calls Try.prog g (#[.slice A n c] ++ cb) X (Bl (p l) X)
theorem isBad_likes (q : Nat) (A : Option Addr) (n c : Nat) (W : World) (hm : n ≤ 1048576) (hq : W.cell? ⟨q, 0, none⟩ = some (.slice A n c)) (hql : q < W.heap.size) : LikesR 93 #[.pointer (some ⟨q, 0, none⟩)] W (fun l => !rowB n l) := fun A1 n1 c1 l X hn1 hm1 hi hb => by
  have hc : X.cell? ⟨q, 0, none⟩ = some (.slice A n c) := (hb.cell (p := ⟨q, 0, none⟩) hql).trans hq
  have HS := Lib.hid (isSquareRow_any A1 n1 c1 n l X hn1 hm1 hm hi)
  have HK := @Lib.hid _ (fun w' b => @bl_mk (!rowB n l) (!rowB n l) X w' rfl b)
  clear hb hq hi hn1
  show Calls Try.prog 93 #[.slice A1 n1 c1, .pointer (some ⟨q, 0, none⟩)] X (Bl (!rowB n l) X)
  generalize rowB n l = bv at *
  go_enter Try.func93, Try.ntmps93
  go_wp2_with fail
  refine HS.out.mono ?_
  rintro e w1 ⟨rfl, hb⟩
  have hb1 := Lib.hid hb
  clear hb hc HS
  go_wp2_with fail
  go_ret
  exact HK.out _ hb1.out

theorem ifr_mk {b : Bool} {v : Int} {W w' : World} (h : decide (0 ≤ v) = b) (h1 : -1 ≤ v) (h2 : v ≤ 1048576) (hb : Below W.heap.size W w') :
    ∃ u : Int, Ending.returned (.int .i64 v) = .returned (.int .i64 u) ∧ decide (0 ≤ u) = b ∧ (-1 ≤ u ∧ u ≤ 1048576) ∧ Below W.heap.size W w' := ⟨v, rfl, h, ⟨h1, h2⟩, hb⟩
set_option maxRecDepth 100000 in
theorem indexFuncR_any (g : Nat) (cb : Array Value) (p : List Int → Bool) (A : Option Addr) (n c : Nat) (ls : List (List Int)) (W : World) (hE : ∀ args w, (callFunc g args).run Try.prog w = .ok (.enter g args) w) (hg : LikesR g cb W p) (hn : ls.length = n) (hm : n ≤ 1048576) (hl : ∀ l ∈ ls, l.length ≤ 1048576) (hi : MxIn W W.heap.size A ls) :
    Calls Try.prog 136 #[.slice A n c, .func (.func g) #[] cb] W fun e w' => ∃ u : Int, e = .returned (.int .i64 u) ∧ decide (0 ≤ u) = ls.any p ∧ (-1 ≤ u ∧ u ≤ 1048576) ∧ Below W.heap.size W w' := by
  have HG := Lib.hid hg
  have HI := Lib.hid hi
  have HL := Lib.hid hl
  have Hn := Lib.hid hn
  have HR := Lib.hid (Below.refl W.heap.size W)
  have HK := @Lib.hid _ (fun v w' => @ifr_mk (ls.any p) v W w')
  clear hg hi hn hl
  go_enter Try.func136, Try.ntmps136
  go_wp2_with fail
  go_loopw [8] (fun u8 wr => ∃ k : Nat, k ≤ n ∧ u8 = .int .i64 k ∧ (∀ j d, j < k → ls[j]? = some d → p d = false) ∧ Below W.heap.size W wr) (fun u8 _ => n - (intOf u8).toNat)
  case atStart => exact ⟨0, Nat.zero_le _, rfl, fun j d hj => absurd hj (by omega), HR.out⟩
  case round =>
    obtain ⟨k, hk, rfl, hin, hb0⟩ := hrel
    have HIn := Lib.hid hin
    have hbl := Lib.hid hb0
    clear hin hb0
    by_cases hkn : k < n
    · obtain ⟨l, hv, hmem⟩ : ∃ l, ls[k]? = some l ∧ l ∈ ls := by
        have hkl : k < ls.length := by have := Hn.out; omega
        exact ⟨ls[k], List.getElem?_eq_getElem hkl, List.getElem_mem hkl⟩
      obtain ⟨ad, rfl, hab, A1, c1, hcell, hrow⟩ := mx_cell (HI.out.below hbl.out) hv
      have hk0 : (0 : Int) ≤ (k : Int) := Int.natCast_nonneg _
      have hk1 : (k : Int) < (n : Int) := by omega
      have hd : decide ((k : Int) < (n : Int)) = true := by simp; omega
      have HG1 := Lib.hid (HG.out A1 l.length c1 l wr rfl (HL.out l hmem) (hrow.more hbl.out.size) hbl.out)
      clear hrow
      have HE : Hid (p l = true → ls.any p = true) := Lib.hid fun hp => List.any_eq_true.2 ⟨l, hmem, hp⟩
      have HN : Hid (p l = false → ∀ j d, j < k + 1 → ls[j]? = some d → p d = false) := Lib.hid fun hp j d hj hl => by
        rcases Nat.lt_or_ge j k with h | h
        · exact HIn.out j d h hl
        · obtain rfl : j = k := by omega
          rw [hv] at hl; cases hl; exact hp
      clear hv hmem
      generalize p l = bp at *
      generalize l.length = m at *
      go_wp2_with fail
      refine HG1.out.mono ?_
      rintro e w1 ⟨rfl, hb⟩
      have hbl1 := Lib.hid (below_call hbl.out hb)
      clear hb HG1 hcell
      cases bp with
      | true =>
        have HE2 := Lib.hid (HE.out rfl)
        clear HE HN
        go_wp2_with fail
        go_ret
        exact HK.out _ _ (by rw [HE2.out]; simp) (by omega) (by omega) hbl1.out
      | false =>
        have HN2 := Lib.hid (HN.out rfl)
        clear HE HN
        go_wp2_with fail
        go_roundw
        case rel => exact ⟨k + 1, by omega, by go_num, HN2.out, hbl1.out⟩
        case measure => simp [intOf]; omega
    · obtain rfl : k = n := by omega
      have hd : decide ((k : Int) < (k : Int)) = false := by simp
      have HE : Hid (ls.any p = false) := Lib.hid (by
        rw [← Bool.not_eq_true, List.any_eq_true]
        rintro ⟨v, hv, hp⟩
        obtain ⟨j, hj⟩ := List.getElem?_of_mem hv
        have := (List.getElem?_eq_some_iff.1 hj).1
        rw [HIn.out j v (by have := Hn.out; omega) hj] at hp; cases hp)
      go_wp2_with fail
      go_ret
      exact HK.out _ _ (by rw [HE.out]; simp) (by omega) (by omega) hbl.out
theorem containsFuncR_any (g : Nat) (cb : Array Value) (p : List Int → Bool) (A : Option Addr) (n c : Nat) (ls : List (List Int)) (W : World) (hE : ∀ args w, (callFunc g args).run Try.prog w = .ok (.enter g args) w) (hg : LikesR g cb W p) (hn : ls.length = n) (hm : n ≤ 1048576) (hl : ∀ l ∈ ls, l.length ≤ 1048576) (hi : MxIn W W.heap.size A ls) :
    Calls Try.prog 95 #[.slice A n c, .func (.func g) #[] cb] W (Bl (ls.any p) W) := by
  have HC := Lib.hid (indexFuncR_any g cb p A n c ls W hE hg hn hm hl hi)
  generalize ls.any p = b at *
  clear hg hi hn hl
  go_enter Try.func95, Try.ntmps95
  go_wp2_with fail
  refine HC.out.mono ?_
  rintro e w1 ⟨u, rfl, hu, hu2, hb⟩
  have HK := Lib.hid (bl_mk (rfl : b = b) hb)
  clear hb HC
  go_wp2_with fail
  go_ret
  exact HK.out

theorem any_not {n : Nat} (ls : List (List Int)) : (!ls.any fun l => !rowB n l) = ls.all (rowB n) := by
  induction ls with
  | nil => rfl
  | cons l ls ih => simp [ih]
set_option maxRecDepth 100000 in
theorem squareOkI_any (A : Option Addr) (n c : Nat) (ls : List (List Int)) (W : World) (hn : ls.length = n) (hm : n ≤ 1048576) (hl : ∀ l ∈ ls, l.length ≤ 1048576) (hi : MxIn W W.heap.size A ls) :
    Calls Try.prog 35 #[.slice A n c] W (Bl (sqB ls) W) := by
  have hbx : Hid (∀ T, Below W.heap.size W (W.alloc (.cells #[.slice A n c] T))) := Lib.hid fun T => below_box W _
  have HC : Hid (∀ T, Calls Try.prog 95 #[.slice A n c, .func (.func 93) #[] #[.pointer (some ⟨W.heap.size, 0, none⟩)]] (W.alloc (.cells #[.slice A n c] T)) (Bl (ls.any fun l => !rowB n l) (W.alloc (.cells #[.slice A n c] T)))) := Lib.hid fun T =>
    containsFuncR_any 93 #[.pointer (some ⟨W.heap.size, 0, none⟩)] (fun l => !rowB n l) A n c ls _ Try.call93 (isBad_likes W.heap.size A n c _ hm (by simp) (by simp)) hn hm hl ((hi.below (hbx.out T)).more (hbx.out T).size)
  have HK := @Lib.hid _ (fun w' v e b => @bl_mk v (sqB ls) W w' e b)
  have HE : Hid (n ≤ 16 → (!ls.any fun l => !rowB n l) = sqB ls) := Lib.hid fun h => by
    unfold sqB
    rw [hn, decide_eq_true h, Bool.and_true, any_not]
  have HF : Hid (¬ n ≤ 16 → false = sqB ls) := Lib.hid fun h => by
    unfold sqB
    rw [hn, decide_eq_false h, Bool.and_false]
  have hn0 : (0 : Int) ≤ (n : Int) := Int.natCast_nonneg _
  clear hn hl hi
  generalize sqB ls = bv at *
  generalize (ls.any fun l => !rowB n l) = ba at *
  by_cases h16 : n ≤ 16
  · have hd : decide ((n : Int) ≤ 16) = true := decide_eq_true (by omega)
    have HE2 := Lib.hid (HE.out h16)
    clear HE HF
    go_enter Try.func35, Try.ntmps35
    go_wp2_with fail
    refine (HC.out _).mono ?_
    rintro e w1 ⟨rfl, hb⟩
    have hb1 := Lib.hid (below_call (hbx.out _) hb)
    clear hb HC hbx
    go_wp2_with fail
    go_ret
    exact HK.out _ _ HE2.out hb1.out
  · have hd : decide ((n : Int) ≤ 16) = false := decide_eq_false (by omega)
    have HF2 := Lib.hid (HF.out h16)
    clear HE HF
    go_enter Try.func35, Try.ntmps35
    go_wp2_with fail
    go_ret
    exact HK.out _ _ HF2.out (hbx.out _)
end Go.Proofs.Ythgnhamokikhkaa.detI
