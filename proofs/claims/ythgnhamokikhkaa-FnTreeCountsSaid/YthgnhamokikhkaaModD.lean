/- The contracts of the model's functions on square matrices. -/
import Derived.Test.YthgnhamokikhkaaDets
import Derived.Test.YthgnhamokikhkaaRowsP
import Derived.Test.YthgnhamokikhkaaModM
import Derived.Deep.AppendLies

namespace Go.Proofs.Ythgnhamokikhkaa.matM
open Go.ChangeShapes Go.WideShapes Go.ChangeAt Go.RowKit
open draw gridP gridC gridE bitP mazeP mazeC mazeM mazeR mazeS intsP reachD intA listK rowsP matP
set_option linter.unusedVariables false

set_option maxRecDepth 100000 in
set_option maxHeartbeats 2000000 in
theorem squareOk_any (A : Option Addr) (n c : Nat) (ls : List (List Int)) (W : World) (hn : ls.length = n) (hm : n ≤ 1048576) (hl : ∀ l ∈ ls, l.length ≤ 1048576) (hi : MxIn W W.heap.size A ls) :
    Calls Try.prog 112 #[.slice A n c] W (Bl (sqB ls) W) := by
  have HI := Lib.hid hi
  have HL := Lib.hid hl
  have Hn := Lib.hid hn
  have HR := Lib.hid (Below.refl W.heap.size W)
  have HK := @Lib.hid _ (fun w' v e b => @bl_mk v (sqB ls) W w' e b)
  have HIn := Lib.hid (fun z X => in_b z (-16) 16 X)
  clear hi hl hn
  go_enter Try.func112, Try.ntmps112
  go_wp2_with fail
  go_loopw [3] (fun u3 wr => ∃ i : Nat, i ≤ n ∧ u3 = .int .i64 i ∧ (∀ (j : Nat) (l : List Int), j < i → ls[j]? = some l → rowB n l = true) ∧ Below W.heap.size W wr) (fun u3 _ => n - (intOf u3).toNat)
  case atStart => exact ⟨0, Nat.zero_le _, rfl, fun j l h => absurd h (by omega), HR.out⟩
  case round =>
    obtain ⟨i, hi, rfl, hall, hb0⟩ := hrel
    have HA := Lib.hid hall
    have hbl := Lib.hid hb0
    clear hall hb0 HR
    have hi0 : (0 : Int) ≤ (i : Int) := Int.natCast_nonneg _
    by_cases hin : i < n
    · have hi1 : (i : Int) < (n : Int) := by omega
      obtain ⟨l, hl⟩ : ∃ l, ls[i]? = some l := ⟨ls[i]'(by have := Hn.out; omega), List.getElem?_eq_getElem (by have := Hn.out; omega)⟩
      have hll := HL.out l (List.mem_of_getElem? hl)
      obtain ⟨ad, rfl, hab, A1, c1, ea, ra⟩ := mx_cell (HI.out.below hbl.out) hl
      have HLi := Lib.hid hl
      have Hbad : Hid (rowB n l = false → false = sqB ls) := Lib.hid fun h => (sq_bad (List.mem_of_getElem? hl) (by rw [Hn.out]; exact h)).symm
      have HNx : Hid (rowB n l = true → ∀ (j : Nat) (m : List Int), j < i + 1 → ls[j]? = some m → rowB n m = true) := Lib.hid fun h j m hj hm => by
        rcases Nat.lt_or_ge j i with h' | h'
        · exact HA.out j m h' hm
        · obtain rfl : j = i := by omega
          rw [hl] at hm; cases hm; exact h
      clear ra hl HA
      by_cases hlen : l.length = n
      · rw [hlen] at ea
        have hnn : ((n : Int) != (n : Int)) = false := by simp
        have Hlen := Lib.hid hlen
        clear hlen hll
        go_wp2_with fail
        clear ea
        go_loopw [4, 5] (fun u4 u5 wq => ∃ k : Nat, k ≤ n ∧ u5 = .int .i64 k ∧ u4 = .int .i64 (abS (l.take k)) ∧ (∀ z ∈ l.take k, -16 ≤ z ∧ z ≤ 16) ∧ Below W.heap.size W wq) (fun _ u5 _ => n - (intOf u5).toNat)
        case atStart => exact ⟨0, Nat.zero_le _, rfl, rfl, fun z hz => by simp at hz, hbl.out⟩
        case round =>
          clear hbl
          obtain ⟨k, hk, rfl, rfl, hr0, hb0⟩ := hrel
          have hrg := Lib.hid hr0
          have hbl := Lib.hid hb0
          obtain ⟨a1, a2⟩ := abS_bd hr0
          rw [List.length_take] at a2
          clear hr0 hb0
          have hk0 : (0 : Int) ≤ (k : Int) := Int.natCast_nonneg _
          obtain ⟨ad', had, -, A2, c2, ea, ra⟩ := mx_cell (HI.out.below hbl.out) HLi.out
          cases had
          rw [Hlen.out] at ea
          by_cases hkn : k < n
          · have hk1 : (k : Int) < (n : Int) := by omega
            obtain ⟨z, hz⟩ : ∃ z, l[k]? = some z := ⟨l[k]'(by have := Hlen.out; omega), List.getElem?_eq_getElem (by have := Hlen.out; omega)⟩
            obtain ⟨ad2, rfl, hab2, ez⟩ := ints_cell ra hz
            have hI1 := Lib.hid (fun X => HIn.out z X)
            by_cases hzr : -16 ≤ z ∧ z ≤ 16
            · rw [show inB z (-16) 16 = true from decide_eq_true hzr] at hI1
              obtain ⟨z0, z1⟩ := hzr
              have HS := Lib.hid (show abS (l.take (k + 1)) = abS (l.take k) + (if z < -z then -z else z) by rw [abS_next hz, Int.max_def]; split <;> split <;> omega)
              have HG : Hid (∀ y ∈ l.take (k + 1), -16 ≤ y ∧ y ≤ 16) := Lib.hid fun y hy => by
                rw [List.take_add_one, hz] at hy
                rcases List.mem_append.1 hy with h | h
                · exact hrg.out y h
                · have : y = z := by simpa using h
                  rw [this]; exact ⟨z0, z1⟩
              clear hz ra
              generalize hs : abS (l.take k) = s at *
              generalize hs2 : abS (l.take (k + 1)) = s2 at *
              go_wp2_with fail
              refine (hI1.out _).mono ?_
              rintro e w1 ⟨rfl, rfl⟩
              go_wp2_with fail
              go_quiet (fail)
              go_wp2_with fail
              go_roundw
              case rel => exact ⟨k + 1, by omega, by go_num, by rw [hs2, HS.out], HG.out, below_draws hbl.out _⟩
              case measure => simp [intOf]; omega
            · rw [show inB z (-16) 16 = false from decide_eq_false hzr] at hI1
              have HB := Lib.hid (Hbad.out (row_bad (List.mem_of_getElem? hz) hzr))
              clear hz ra hzr
              go_wp2_with fail
              refine (hI1.out _).mono ?_
              rintro e w1 ⟨rfl, rfl⟩
              go_wp2_with fail
              go_ret
              exact HK.out _ _ HB.out hbl.out
          · obtain rfl : k = n := by omega
            clear ra ea
            have e1 : l.take k = l := List.take_of_length_le (by have := Hlen.out; omega)
            rw [e1] at hrg a1 a2 ⊢
            have hrow : rowB k l = decide (abS l ≤ 16) := by
              unfold rowB
              rw [decide_eq_true Hlen.out, Bool.true_and, List.all_eq_true.2 fun z hz => decide_eq_true (hrg.out z hz), Bool.true_and]
            have Hrow := Lib.hid hrow
            clear hrow e1
            generalize hs : abS l = s at *
            by_cases h16 : s ≤ 16
            · have hd : decide (16 < s) = false := by simp; omega
              have HX := Lib.hid (HNx.out (Hrow.out.trans (decide_eq_true h16)))
              go_wp2_with fail
              go_roundw
              case rel => exact ⟨i + 1, by omega, by go_num, HX.out, hbl.out⟩
              case measure => simp [intOf]; omega
            · have hd : decide (16 < s) = true := by simp; omega
              have HB := Lib.hid (Hbad.out (Hrow.out.trans (decide_eq_false h16)))
              go_wp2_with fail
              go_ret
              exact HK.out _ _ HB.out hbl.out
      · have HB := Lib.hid (Hbad.out (by unfold rowB; rw [decide_eq_false hlen]; rfl))
        have hnn : ((l.length : Int) != (n : Int)) = true := by rw [bne_iff_ne]; omega
        generalize l.length = q at *
        go_wp2_with fail
        go_ret
        exact HK.out _ _ HB.out hbl.out
    · obtain rfl : i = n := by omega
      have HE : Hid (decide ((i : Int) ≤ 16) = sqB ls) := Lib.hid (by
        unfold sqB
        rw [List.all_eq_true.2 fun l hl => by
          obtain ⟨j, hj, e⟩ := List.mem_iff_getElem.1 hl
          rw [Hn.out]
          exact HA.out j l (by have := Hn.out; omega) (by rw [List.getElem?_eq_getElem hj, e]), Bool.true_and, Hn.out, decide_eq_decide]
        omega)
      go_wp2_with fail
      go_ret
      exact HK.out _ _ HE.out hbl.out
end Go.Proofs.Ythgnhamokikhkaa.matM

/- The sums over the sets of columns that are used, in memory. -/
namespace Go.Proofs.Ythgnhamokikhkaa.matN
open Go.ChangeShapes Go.WideShapes Go.ChangeAt Go.RowKit
open draw gridP gridC bitP mazeP mazeQ mazeC mazeM intsP reachD intA listK forest deadP detP trsP barP rowsP matP
set_option linter.unusedVariables false

section
variable (a : Nat → Nat → Int) (n : Nat)
/-- The sums that stand there. -/
def plL (S κ : Nat) : List Int := (List.range (2 ^ n)).map fun t => wrap64 (acc a n t S κ)
end
section
variable {a : Nat → Nat → Int} {n : Nat}
theorem pl_len (S κ : Nat) : (plL a n S κ).length = 2 ^ n := by simp [plL]
theorem pl_at {S κ t : Nat} (h : t < 2 ^ n) : (plL a n S κ)[t]? = some (wrap64 (acc a n t S κ)) := by
  unfold plL; rw [List.getElem?_map, List.getElem?_range h]; rfl
theorem pl_ext {S κ S' κ' : Nat} (h : ∀ t, t < 2 ^ n → wrap64 (acc a n t S κ) = wrap64 (acc a n t S' κ')) : plL a n S κ = plL a n S' κ' := List.map_congr_left fun t ht => h t (List.mem_range.1 ht)
theorem pl_start : (List.replicate (2 ^ n) (0 : Int)).set 0 1 = plL a n 0 n := by
  apply List.ext_getElem?
  intro i
  by_cases hi : i < 2 ^ n
  · rw [pl_at hi, acc_start]
    by_cases h0 : i = 0
    · subst h0
      rw [List.getElem?_set_self (by simpa using hi), if_pos rfl, show wrap64 1 = 1 by unfold wrap64; omega]
    · rw [List.getElem?_set_ne (fun e => h0 e.symm), if_neg h0, List.getElem?_replicate, if_pos hi, show wrap64 0 = 0 by unfold wrap64; omega]
  · rw [List.getElem?_eq_none (by simp; omega), List.getElem?_eq_none (by rw [pl_len]; omega)]
theorem pl_turn (S : Nat) : plL a n S 0 = plL a n (S + 1) n := pl_ext fun t _ => by rw [acc_turn]
theorem pl_skip {S : Nat} (hS : S < 2 ^ n) (h : (∀ k, k < n → bt S k = 1) ∨ wrap64 (dsN a n S) = 0) : plL a n S n = plL a n (S + 1) n := by
  rw [← pl_turn]
  exact pl_ext fun t _ => (acc_skip hS h (Nat.zero_le _)).symm
theorem pl_same {S k : Nat} (hk : k < n) (h : bt S k = 1 ∨ a (pcN S n) k = 0) : plL a n S (k + 1) = plL a n S k := pl_ext fun t ht => by
  rw [acc_step (κ := k) hk]
  by_cases hc : bt S k = 0 ∧ t = S + 2 ^ k
  · rw [if_pos hc]
    rcases h with h | h
    · omega
    · obtain ⟨h0, rfl⟩ := hc
      unfold term
      rw [pc_add h0 hk, Nat.add_sub_cancel, h]; simp
  · rw [if_neg hc]; simp
theorem pl_put {S k : Nat} (hk : k < n) (h0 : bt S k = 0) (hS : S < 2 ^ n) :
    (plL a n S (k + 1)).set (S + 2 ^ k) (wrap64 (acc a n (S + 2 ^ k) S (k + 1) + sg (pcN S n - pcN S (k + 1)) * wrap64 (dsN a n S) * a (pcN S n) k)) = plL a n S k := by
  have hT := add_lt hS hk h0
  have hterm : term a n (S + 2 ^ k) k = sg (pcN S n - pcN S (k + 1)) * a (pcN S n) k * dsN a n S := by
    unfold term hi
    have h1 : pcN (S + 2 ^ k) (k + 1) = pcN S (k + 1) + 1 := pc_add h0 (Nat.lt_succ_self k)
    rw [pc_add h0 hk, h1, Nat.add_sub_cancel, Nat.add_sub_cancel_right, show pcN S n + 1 - (pcN S (k + 1) + 1) = pcN S n - pcN S (k + 1) by omega]
  apply List.ext_getElem?
  intro i
  by_cases hi : i < 2 ^ n
  · rw [pl_at hi, acc_step (κ := k) hk]
    by_cases he : i = S + 2 ^ k
    · subst he
      rw [List.getElem?_set_self (by rw [pl_len]; exact hi), if_pos ⟨h0, rfl⟩, hterm]
      congr 1
      rw [← wrap_add', ← wrap_add' _ (sg _ * _ * dsN a n S)]
      congr 2
      rw [show sg (pcN S n - pcN S (k + 1)) * wrap64 (dsN a n S) * a (pcN S n) k = sg (pcN S n - pcN S (k + 1)) * a (pcN S n) k * wrap64 (dsN a n S) by rw [Int.mul_assoc, Int.mul_comm (wrap64 _), ← Int.mul_assoc], wrap_mul']
    · rw [List.getElem?_set_ne (fun e => he e.symm), pl_at hi, if_neg (fun h => he h.2)]; simp
  · rw [List.getElem?_eq_none (by rw [List.length_set, pl_len]; omega), List.getElem?_eq_none (by rw [pl_len]; omega)]
theorem pc_le' (S : Nat) : ∀ k, pcN S k ≤ k
  | 0 => Nat.zero_le _
  | k + 1 => by have := pc_le' S k; have := bt_le S k; unfold pcN; unfold bt at this; omega
theorem pc_mono (S k : Nat) : ∀ d, pcN S k ≤ pcN S (k + d)
  | 0 => Nat.le_refl _
  | d + 1 => Nat.le_trans (pc_mono S k d) (Nat.le_add_right _ _)
theorem pc_succ (S k : Nat) : pcN S (k + 1) = pcN S k + bt S k := rfl
theorem full_of {S : Nat} : ∀ {n : Nat}, pcN S n = n → ∀ k, k < n → bt S k = 1
  | 0, _, k, h => absurd h (by omega)
  | n + 1, h, k, hk => by
    rw [pc_succ] at h
    have h1 := pc_le' S n
    have h2 := bt_le S n
    by_cases e : k = n
    · subst e; omega
    · exact full_of (n := n) (by omega) k (by omega)
theorem bt_ones {n : Nat} : ∀ k, k < n → bt (2 ^ n - 1) k = 1 := fun k hk => by
  have h := bt_test (2 ^ n - 1) k
  rw [Nat.testBit_two_pow_sub_one] at h
  rw [decide_eq_true hk] at h
  exact of_decide_eq_true h.symm
theorem pl_end {S κ : Nat} (h : 2 ^ n ≤ S) : (plL a n S κ)[2 ^ n - 1]? = some (wrap64 (dm a (List.range n))) := by
  have hp : 0 < 2 ^ n := Nat.pow_pos (by decide)
  rw [pl_at (by omega), acc_all (by omega) (by omega), ds_full bt_ones]
end
/-- The sums in memory. -/
def DN (W : World) (a : Nat → Nat → Int) (n S κ : Nat) (X : World) : Prop := Below W.heap.size W X ∧ X.ownsRow W.heap.size 3 1 (.slice (some ⟨W.heap.size, 0, none⟩) (2 ^ n) (2 ^ n)) (2 ^ n) (icells (plL a n S κ))
theorem DN.call {W X X' : World} {a : Nat → Nat → Int} {n S κ : Nat} (h : DN W a n S κ X) (hb : Below X.heap.size X X') : DN W a n S κ X' := ⟨below_call h.1 hb, own_call h.2 hb⟩
theorem DN.same {W X : World} {a : Nat → Nat → Int} {n S κ S' κ' : Nat} (h : DN W a n S κ X) (e : plL a n S κ = plL a n S' κ') : DN W a n S' κ' X := ⟨h.1, by rw [← e]; exact h.2⟩
theorem DN.cell {W X : World} {a : Nat → Nat → Int} {n S κ t : Nat} (h : DN W a n S κ X) (ht : t < 2 ^ n) : X.cell? ⟨W.heap.size, t, none⟩ = some (.int .i64 (wrap64 (acc a n t S κ))) := own_cellI h.2 (pl_at ht)
theorem DN.put {W X : World} {a : Nat → Nat → Int} {n S κ κ' S' t : Nat} {z : Int} (h : DN W a n S κ X) (e : (plL a n S κ).set t z = plL a n S' κ') : DN W a n S' κ' (X.setCell ⟨W.heap.size, t, none⟩ (.int .i64 z)) := by
  refine ⟨h.1.setCell (Nat.le_refl _) _, ?_⟩
  have h1 := (h.2.stored t (.int .i64 z)).1
  have e2 : (icells (plL a n S κ)).set t (.int .i64 z) = icells (plL a n S' κ') := by rw [← e]; simp [icells, List.map_set]
  rwa [e2] at h1
end Go.Proofs.Ythgnhamokikhkaa.matN

/- Rows exchanged: the plain facts, and lists of rows that share their rows with another. -/
namespace Go.Proofs.Ythgnhamokikhkaa.matX
open Go.ChangeShapes Go.WideShapes Go.ChangeAt Go.RowKit
open draw gridC mazeC intsP reachD intA intK listK rowsP matP detP
set_option linter.unusedVariables false

theorem dt_exch {a b : Nat → Nat → Int} {I : List Nat} {i k : Nat} (hI : I.Nodup) (hi : i ∈ I) (hk : k ∈ I) (hne : i ≠ k) (hbi : b i = a k) (hbk : b k = a i) (ho : ∀ r, r ≠ i → r ≠ k → b r = a r) (cs : List Nat) :
    dt (I.map b) cs = - dt (I.map a) cs := by
  have hm : ∀ s : List Nat, i ∉ s → k ∉ s → s.map b = s.map a := fun s h1 h2 => List.map_congr_left fun r hr => ho r (fun e => h1 (e ▸ hr)) (fun e => h2 (e ▸ hr))
  obtain ⟨s, t, rfl⟩ := List.append_of_mem hi
  obtain ⟨n1, n2, n3⟩ := List.nodup_append.1 hI
  have his : i ∉ s := fun h => n3 i h i List.mem_cons_self rfl
  have hit : i ∉ t := (List.nodup_cons.1 n2).1
  rcases List.mem_append.1 hk with h | h
  · have hkt : k ∉ t := fun h' => n3 k h k (List.mem_cons_of_mem _ h') rfl
    obtain ⟨p, q, rfl⟩ := List.append_of_mem h
    obtain ⟨m1, m2, m3⟩ := List.nodup_append.1 n1
    have hkp : k ∉ p := fun h => m3 k h k List.mem_cons_self rfl
    have hkq : k ∉ q := (List.nodup_cons.1 m2).1
    have hip : i ∉ p := fun h => his (List.mem_append.2 (.inl h))
    have hiq : i ∉ q := fun h => his (List.mem_append.2 (.inr (List.mem_cons_of_mem _ h)))
    simp only [List.map_append, List.map_cons, hm p hip hkp, hm q hiq hkq, hm t hit hkt, hbi, hbk, List.append_assoc, List.cons_append]
    exact dt_swap _ _ _ _ _ cs
  · have h := (List.mem_cons.1 h).resolve_left (fun e => hne e.symm)
    have hks : k ∉ s := fun h' => n3 k h' k (List.mem_cons_of_mem _ h) rfl
    obtain ⟨p, q, rfl⟩ := List.append_of_mem h
    obtain ⟨m1, m2, m3⟩ := List.nodup_append.1 (List.nodup_cons.1 n2).2
    have hkp : k ∉ p := fun h => m3 k h k List.mem_cons_self rfl
    have hkq : k ∉ q := (List.nodup_cons.1 m2).1
    have hip : i ∉ p := fun h => hit (List.mem_append.2 (.inl h))
    have hiq : i ∉ q := fun h => hit (List.mem_append.2 (.inr (List.mem_cons_of_mem _ h)))
    simp only [List.map_append, List.map_cons, hm s his hks, hm p hip hkp, hm q hiq hkq, hbi, hbk]
    exact dt_swap _ _ _ _ _ cs
theorem dt_equal {b : Nat → Nat → Int} {I : List Nat} {i k : Nat} (hi : i ∈ I) (hk : k ∈ I) (hne : i ≠ k) (hb : b i = b k) (cs : List Nat) : dt (I.map b) cs = 0 := by
  obtain ⟨s, t, rfl⟩ := List.append_of_mem hi
  have hm : b i ∈ s.map b ++ t.map b := by
    rw [hb, ← List.map_append]
    refine List.mem_map.2 ⟨k, ?_, rfl⟩
    rcases List.mem_append.1 hk with h | h
    · exact List.mem_append.2 (.inl h)
    · exact List.mem_append.2 (.inr ((List.mem_cons.1 h).resolve_left (fun e => hne e.symm)))
  rw [List.map_append, List.map_cons, dt_move, dt_twice hm, Int.mul_zero]

theorem sq_rows {ls ms : List (List Int)} (h : sqB ls = true) (hl : ms.length = ls.length) (hm : ∀ l ∈ ms, l ∈ ls) : sqB ms = true := by
  unfold sqB at h ⊢
  rw [Bool.and_eq_true, List.all_eq_true] at h ⊢
  rw [hl]
  exact ⟨fun l hl => h.1 l (hm l hl), h.2⟩
theorem mem_set2 {ls : List (List Int)} {i : Nat} {l m : List Int} (hl : l ∈ ls) (hm : m ∈ ls.set i l) : m ∈ ls := by
  rcases List.mem_or_eq_of_mem_set hm with h | h
  · exact h
  · rw [h]; exact hl
theorem mfn_row {ls ms : List (List Int)} {i k : Nat} (h : ms[i]? = ls[k]?) : mfn ms i = mfn ls k := by
  funext j; simp [mfn, List.getD_eq_getElem?_getD, h]
theorem wrap_zero : wrap64 0 = 0 := by unfold wrap64; omega
/-- Two rows exchanged: the sign changes; a row put in another's place: 0. -/
theorem exch {ls : List (List Int)} {i k : Nat} {li lk : List Int} (hq : sqB ls = true) (hne : i ≠ k) (hi : ls[i]? = some li) (hk : ls[k]? = some lk) :
    deZ ((ls.set i lk).set k li) = wrap64 (- deZ ls) ∧ deZ (ls.set i lk) = 0 ∧ sqB ((ls.set i lk).set k li) = true ∧ sqB (ls.set i lk) = true := by
  have hil : i < ls.length := (List.getElem?_eq_some_iff.1 hi).1
  have hkl : k < ls.length := (List.getElem?_eq_some_iff.1 hk).1
  have mi : li ∈ ls := List.mem_of_getElem? hi
  have mk : lk ∈ ls := List.mem_of_getElem? hk
  have q1 : sqB (ls.set i lk) = true := sq_rows hq (by simp) fun l hl => mem_set2 mk hl
  have q2 : sqB ((ls.set i lk).set k li) = true := sq_rows hq (by simp) fun l hl => by
    rcases List.mem_or_eq_of_mem_set hl with h | h
    · exact mem_set2 mk h
    · rw [h]; exact mi
  have hn : ((List.range ls.length).reverse).Nodup := List.pairwise_reverse.2 (List.Pairwise.imp (fun h e => h e.symm) List.nodup_range)
  have hii : i ∈ (List.range ls.length).reverse := List.mem_reverse.2 (List.mem_range.2 hil)
  have hkk : k ∈ (List.range ls.length).reverse := List.mem_reverse.2 (List.mem_range.2 hkl)
  refine ⟨?_, ?_, q2, q1⟩
  · unfold deZ
    rw [if_pos q2, if_pos hq, wrap_neg, List.length_set, List.length_set]
    congr 1
    unfold dm
    refine dt_exch hn hii hkk hne ?_ ?_ (fun r h1 h2 => ?_) _
    · exact mfn_row (by rw [List.getElem?_set_ne (fun e => hne e.symm), List.getElem?_set_self hil, hk])
    · exact mfn_row (by rw [List.getElem?_set_self (by simpa using hkl), hi])
    · exact mfn_row (by rw [List.getElem?_set_ne (fun e => h2 e.symm), List.getElem?_set_ne (fun e => h1 e.symm)])
  · unfold deZ
    rw [if_pos q1, List.length_set]
    have : dm (mfn (ls.set i lk)) (List.range ls.length) = 0 := by
      unfold dm
      refine dt_equal hii hkk hne ?_ _
      funext j
      simp [mfn, List.getD_eq_getElem?_getD, List.getElem?_set_self hil, List.getElem?_set_ne hne, hk]
    rw [this, wrap_zero]

/-- Cells that hold rows that can be read. -/
def RowsOf (X : World) (B : Nat) (ds : List Value) (ls : List (List Int)) : Prop := ∀ (r : Nat) (l : List Int), ls[r]? = some l → ∃ Ai ci, ds[r]? = some (.slice Ai l.length ci) ∧ IntsIn X B Ai l ∧ l.length ≤ ci ∧ ci ≤ maxLen
theorem RowsOf.below {X X' : World} {B : Nat} {ds : List Value} {ls : List (List Int)} (h : RowsOf X B ds ls) (hb : Below B X X') : RowsOf X' B ds ls := fun r l hl => by
  obtain ⟨Ai, ci, h1, h2, h3⟩ := h r l hl
  exact ⟨Ai, ci, h1, h2.keep fun p hp => hb.cell hp, h3⟩
theorem RowsOf.put {X : World} {B i k : Nat} {ds : List Value} {ls : List (List Int)} {l : List Int} {c : Value} (h : RowsOf X B ds ls) (hl : ls[k]? = some l) (hc : ds[k]? = some c) {es : List Value} {ms : List (List Int)} (h' : RowsOf X B es ms) (he : es.length = ms.length) : RowsOf X B (es.set i c) (ms.set i l) := fun r m hm => by
  by_cases hr : r = i
  · subst hr
    have hlt : r < ms.length := by have := (List.getElem?_eq_some_iff.1 hm).1; simpa using this
    rw [List.getElem?_set_self hlt] at hm
    obtain rfl := Option.some.inj hm
    obtain ⟨Ai, ci, h1, h2⟩ := h k l hl
    rw [hc] at h1
    exact ⟨Ai, ci, by rw [List.getElem?_set_self (by omega), Option.some.inj h1], h2⟩
  · rw [List.getElem?_set_ne (fun e => hr e.symm)] at hm ⊢
    exact h' r m hm
theorem rows_own {X : World} {b t : Nat} {v : Value} {ls : List (List Int)} (h : MxOw X b t v ls) : ∃ cs : List Value, X.ownsRow b 34 1 v ls.length cs ∧ RowsOf X X.heap.size cs ls := by
  obtain ⟨cs, h1, h2, h3, h4⟩ := h
  refine ⟨cs, h1, fun r l hl => ?_⟩
  obtain ⟨c, e1, e2, e3⟩ := h3 r l hl
  obtain ⟨Ai, ci, rfl⟩ := intsP.own_form e2
  exact ⟨Ai, ci, e1, (ints_own e2).1, own_cap e2⟩
theorem RowsOf.mx {X : World} {b B n : Nat} {A : Option Addr} {c : Nat} {ds : List Value} {ls : List (List Int)} (h : RowsOf X B ds ls) (hB : B ≤ X.heap.size) (ho : X.ownsRow b 34 1 (.slice A n c) n ds) (hn : n = ls.length) : MxIn X X.heap.size A ls := by
  subst hn
  intro hne
  obtain ⟨g, cg, e, hg, hgs⟩ := own_some ho (List.length_pos_iff.2 hne)
  injection e with e1 e2 e3
  subst e1 e3
  refine ⟨_, rfl, hgs, fun i l hl => ?_⟩
  obtain ⟨Ai, ci, h1, h2, h3⟩ := h i l hl
  refine ⟨Ai, ci, ?_, h2.more hB, h3⟩
  have e3 : (⟨g, 0, none⟩ : Addr).add i = ⟨g, i, none⟩ := by
    simp [Addr.add]
    try omega
  rw [e3, ho.cellAt i (by have := (List.getElem?_eq_some_iff.1 hl).1; omega), h1]
end Go.Proofs.Ythgnhamokikhkaa.matX

/- The contract of the model's determinant. -/
namespace Go.Proofs.Ythgnhamokikhkaa.matO
open Go.ChangeShapes Go.WideShapes Go.ChangeAt Go.RowKit
open draw gridP gridC gridE bitP mazeP mazeQ mazeC mazeM mazeR mazeS intsP reachD intA listK forest deadP detP trsP barP rowsP matP matM matN
set_option linter.unusedVariables false

theorem btB_is {S k : Nat} (h : S < 2 ^ 16) (hk : k < 16) : btB (S : Int) (k : Int) = decide (bt S k = 1) := by
  unfold btB
  rw [bitZ_bt (by omega) (by omega), Int.toNat_natCast, Int.toNat_natCast]
  rw [decide_eq_decide]; omega
theorem sg_pm : ∀ m, sg m = 1 ∨ sg m = -1
  | 0 => .inl rfl
  | m + 1 => by
    rcases sg_pm m with h | h
    · exact .inr (by show - sg m = -1; rw [h])
    · exact .inl (by show - sg m = 1; rw [h]; rfl)
theorem mfn_at {ls : List (List Int)} {i j : Nat} {l : List Int} {z : Int} (hl : ls[i]? = some l) (hz : l[j]? = some z) : mfn ls i j = z := by
  simp [mfn, List.getD_eq_getElem?_getD, hl, hz]

set_option maxRecDepth 100000 in
set_option maxHeartbeats 4000000 in
theorem l11Det_any (A : Option Addr) (n c : Nat) (ls : List (List Int)) (W : World) (hn : ls.length = n) (hm : n ≤ 16) (hl : ∀ l ∈ ls, l.length = n) (hi : MxIn W W.heap.size A ls) :
    Calls Try.prog 113 #[.slice A n c] W (Nm (wrap64 (dm (mfn ls) (List.range n))) W) := by
  obtain ⟨i0, hi0, hz0, hz1, hz2⟩ := info_parts info_int
  have HI := Lib.hid hi
  have HL := Lib.hid hl
  have Hn := Lib.hid hn
  have HK := @Lib.hid _ (fun w' b => @nm_mk (wrap64 (dm (mfn ls) (List.range n))) (wrap64 (dm (mfn ls) (List.range n))) W w' rfl b)
  have hp1 : 2 ^ n ≤ 2 ^ 16 := Nat.pow_le_pow_right (by decide) hm
  have hp0 : 0 < 2 ^ n := Nat.pow_pos (by decide)
  have hpi : ((2 : Int) ^ n) = ((2 ^ n : Nat) : Int) := by simp
  have h16 : (2 : Nat) ^ 16 = 65536 := by decide
  have hsh : wrap64 ((2 : Int) ^ n) = ((2 ^ n : Nat) : Int) := by
    rw [hpi, IntWalk.wrap64_in _ (by omega)]
  obtain ⟨N, hN⟩ : ∃ N, N = 2 ^ n := ⟨_, rfl⟩
  have hmk := run_make (P := Try.prog) W 34 3 i0 (.int .i64 0) Try.underlying34 hi0 hz0 .i64 .i64 (N : Int) (N : Int) (by omega) (by omega) (by rw [hz2]; omega) (by omega)
  rw [hz1] at hmk
  simp only [Int.toNat_natCast, Nat.mul_one] at hmk
  clear hi hl hn
  rw [← hN] at hsh
  have hn0 : (0 : Int) ≤ (n : Int) := Int.natCast_nonneg _
  have hn1 : (n : Int) ≤ 16 := by omega
  have hN1 : (1 : Int) ≤ (N : Int) := by omega
  have hN2 : (N : Int) ≤ 65536 := by omega
  have hN0 : 0 < N := by omega
  have HN := Lib.hid hN
  clear hpi hp1 hp0 h16 hN
  have hrow0 := World.ownsRow_lit (base := W.heap.size) (e := 3) (size := 1) W (madeCells (Value.int .i64 0).cells N) N (Nat.le_refl _) (by unfold maxLen; omega) (by rw [size_madeCells]; omega)
  rw [made_zero] at hrow0
  have hc0 : (W.alloc (.cells (madeCells (Value.int .i64 0).cells N) 3)).cell? ⟨W.heap.size, 0, none⟩ = some (.int .i64 0) := own_cellI hrow0 (by rw [List.getElem?_replicate, if_pos (by omega)])
  have hf0 := hrow0.frozenAt 0
  have hmc : (madeCells #[Value.int .i64 0] N)[0]? = some (.int .i64 0) := by
    rw [← Array.getElem?_toList]
    show (madeCells (Value.int .i64 0).cells N).toList[0]? = _
    rw [made_zero, icells_at _ 0 (by simpa using hN0)]; simp
  have hd0 : Hid (DN W (mfn ls) n 0 n (W.alloc (.cells ((madeCells #[Value.int .i64 0] N).setIfInBounds 0 (.int .i64 1)) 3))) := by
    have hw : W.alloc (.cells ((madeCells #[Value.int .i64 0] N).setIfInBounds 0 (.int .i64 1)) 3) = (W.alloc (.cells (madeCells (Value.int .i64 0).cells N) 3)).setCell ⟨W.heap.size, 0, none⟩ (.int .i64 1) := by
      go_simp
    rw [hw]
    refine ⟨(below_box W _).setCell (Nat.le_refl _) _, ?_⟩
    have h1 := (hrow0.stored 0 (.int .i64 1)).1
    have e2 : (icells (List.replicate N 0)).set 0 (.int .i64 1) = icells (plL (mfn ls) n 0 n) := by rw [← pl_start, HN.out]; simp [icells, List.map_set]
    rw [e2, HN.out] at h1
    rw [HN.out]; exact h1
  clear hrow0
  go_enter Try.func113, Try.ntmps113
  go_wp2_with fail
  clear hc0 hf0 hmc
  try simp only [hsh]
  clear hmk
  have HMf := @Lib.hid _ (fun i j l z hl hz => @mfn_at ls i j l z hl hz)
  generalize mfn ls = a at *
  go_loopw [5] (fun u5 wr => ∃ S : Nat, S ≤ N ∧ u5 = .int .i64 S ∧ DN W a n S n wr) (fun u5 _ => N - (intOf u5).toNat)
  case atStart => exact ⟨0, Nat.zero_le _, rfl, hd0.out⟩
  case round =>
    clear hd0
    obtain ⟨S, hS, rfl, hd1⟩ := hrel
    have hd := Lib.hid hd1
    clear hd1
    have hS0 : (0 : Int) ≤ (S : Int) := Int.natCast_nonneg _
    by_cases hSN : S < N
    · have hS1 : (S : Int) < (N : Int) := by omega
      have hdS : decide ((S : Int) < (N : Int)) = true := decide_eq_true hS1
      have HSn : Hid (S < 2 ^ n) := Lib.hid (by have := HN.out; omega)
      have HBit := Lib.hid (fun (k : Nat) (hk : k < n) X => bit_b (S : Int) (k : Int) X (by omega) (by omega) (by omega) (by omega))
      have hS16 : S < 2 ^ 16 := by
        have : (2 : Nat) ^ 16 = 65536 := by decide
        omega
      have HBis := Lib.hid (fun k (hk : k < n) => @btB_is S k hS16 (by omega))
      clear hS16
      go_wp2_with fail
      try simp only [hsh]
      go_loopw [6, 7] (fun u6 u7 wq => ∃ k : Nat, k ≤ n ∧ u7 = .int .i64 k ∧ u6 = .int .i64 (pcN S k) ∧ DN W a n S n wq) (fun _ u7 _ => n - (intOf u7).toNat)
      case atStart => exact ⟨0, Nat.zero_le _, rfl, rfl, hd.out⟩
      case round =>
        clear hd
        obtain ⟨k, hk, rfl, rfl, hd1⟩ := hrel
        have hd := Lib.hid hd1
        clear hd1
        have hk0 : (0 : Int) ≤ (k : Int) := Int.natCast_nonneg _
        have hpk := pc_le' S k
        by_cases hkn : k < n
        · have hk1 : (k : Int) < (n : Int) := by omega
          have hdk : decide ((k : Int) < (n : Int)) = true := decide_eq_true hk1
          have HB1 := Lib.hid (HBit.out k hkn)
          rw [HBis.out k hkn] at HB1
          have hb := pc_succ S k
          have hb2 := bt_le S k
          by_cases hbt : bt S k = 1
          · rw [decide_eq_true hbt] at HB1
            have HP := Lib.hid (show pcN S (k + 1) = pcN S k + 1 by omega)
            clear hb hb2 hbt
            generalize pcN S k = q at *
            go_wp2_with fail
            refine (HB1.out _).mono ?_
            rintro e w1 ⟨rfl, rfl⟩
            go_wp2_with fail
            go_roundw
            case rel => exact ⟨k + 1, by omega, by go_num, by rw [HP.out]; simp, hd.out⟩
            case measure => simp [intOf]; omega
          · rw [decide_eq_false hbt] at HB1
            have HP := Lib.hid (show pcN S (k + 1) = pcN S k by omega)
            clear hb hb2 hbt
            generalize pcN S k = q at *
            go_wp2_with fail
            refine (HB1.out _).mono ?_
            rintro e w1 ⟨rfl, rfl⟩
            go_wp2_with fail
            go_roundw
            case rel => exact ⟨k + 1, by omega, by go_num, by rw [HP.out], hd.out⟩
            case measure => simp [intOf]; omega
        · obtain rfl : k = n := by omega
          have hdk : decide ((k : Int) < (k : Int)) = false := by simp
          have hcell := hd.out.cell HSn.out
          rw [acc_all HSn.out (Nat.le_refl _)] at hcell
          by_cases hfull : pcN S k = k
          · have hfI : (((pcN S k : Nat) : Int) == (k : Int)) = true := by simp [hfull]
            have HD := Lib.hid (hd.out.same (pl_skip HSn.out (.inl (full_of hfull))))
            generalize pcN S k = q at *
            go_wp2_with fail
            go_roundw
            case rel => exact ⟨S + 1, by omega, by go_num, HD.out⟩
            case measure => simp [intOf]; omega
          · have hfI : (((pcN S k : Nat) : Int) == (k : Int)) = false := by simp; omega
            by_cases hz : wrap64 (dsN a k S) = 0
            · rw [hz] at hcell
              have HD := Lib.hid (hd.out.same (pl_skip HSn.out (.inr hz)))
              generalize pcN S k = q at *
              go_wp2_with fail
              go_roundw
              case rel => exact ⟨S + 1, by omega, by go_num, HD.out⟩
              case measure => simp [intOf]; omega
            · have hzI : (wrap64 (dsN a k S) == 0) = false := by rw [beq_eq_false_iff_ne]; exact hz
              have hrow : pcN S k < k := by omega
              obtain ⟨l, hl⟩ : ∃ l, ls[pcN S k]? = some l := ⟨ls[pcN S k]'(by have := Hn.out; omega), List.getElem?_eq_getElem (by have := Hn.out; omega)⟩
              have hll := HL.out l (List.mem_of_getElem? hl)
              have HLi := Lib.hid hl
              have Hll := Lib.hid hll
              have Hq : ∃ q, Hid (pcN S k = q) := ⟨_, rfl⟩
              obtain ⟨q, Hq⟩ := Hq
              have HMono : Hid (∀ j, j ≤ k → pcN S j ≤ q) := Lib.hid fun j hj => by
                obtain ⟨d, rfl⟩ : ∃ d, k = j + d := ⟨k - j, by omega⟩
                rw [← Hq.out]; exact pc_mono S j d
              have HPut := @Lib.hid _ (fun j hj h0 => @pl_put a k S j hj h0 HSn.out)
              have HSame := @Lib.hid _ (fun j hj h => @pl_same a k S j hj h)
              have HTurn := Lib.hid (@pl_turn a k S)
              have Hsg0 : Hid (sg (q - pcN S k) = 1) := Lib.hid (by rw [Hq.out, Nat.sub_self]; rfl)
              rw [Hq.out] at HPut HSame HLi hfI hrow ⊢
              clear hl hll hfull hpk
              have hcS := Lib.hid (fun X κ (h : DN W a k S κ X) => by
                have := h.cell HSn.out
                rw [acc_all HSn.out (Nat.le_refl _)] at this
                exact this)
              generalize hP : wrap64 (dsN a k S) = P at *
              go_wp2_with fail
              clear hcell
              go_loopw [8, 9] (fun u8 u9 wv => ∃ κ : Nat, κ ≤ k ∧ u9 = .int .i64 ((κ : Int) - 1) ∧ u8 = .int .i64 (sg (q - pcN S κ)) ∧ DN W a k S κ wv) (fun _ u9 _ => (intOf u9 + 1).toNat)
              case atStart => exact ⟨k, Nat.le_refl _, rfl, by rw [Hsg0.out], hd.out⟩
              case round =>
                clear hd Hsg0
                obtain ⟨κ, hκ, rfl, rfl, hd1⟩ := hrel
                have hd := Lib.hid hd1
                clear hd1
                rcases κ with _ | j
                · have HD := Lib.hid (hd.out.same HTurn.out)
                  rw [show ((0 : Nat) : Int) - 1 = -1 from rfl]
                  generalize sg (q - pcN S 0) = s0 at *
                  go_wp2_with fail
                  go_roundw
                  case rel => exact ⟨S + 1, by omega, by go_num, HD.out⟩
                  case measure => simp [intOf]; omega
                · have e0 : (((j + 1 : Nat)) : Int) - 1 = (j : Int) := by omega
                  rw [e0]
                  have hj0 : (0 : Int) ≤ (j : Int) := Int.natCast_nonneg _
                  have hjk : j < k := by omega
                  have hj1 : (j : Int) < (k : Int) := by omega
                  have HB1 := Lib.hid (HBit.out j hjk)
                  rw [HBis.out j hjk] at HB1
                  have hb := pc_succ S j
                  have hb2 := bt_le S j
                  have hmn := HMono.out (j + 1) (by omega)
                  have hdj : decide ((0 : Int) ≤ (j : Int)) = true := decide_eq_true hj0
                  have hspm := sg_pm (q - pcN S (j + 1))
                  by_cases hbt : bt S j = 1
                  · rw [decide_eq_true hbt] at HB1
                    have HP := Lib.hid (show sg (q - pcN S j) = - sg (q - pcN S (j + 1)) by
                      rw [show q - pcN S j = (q - pcN S (j + 1)) + 1 by omega]; rfl)
                    have HD := Lib.hid (hd.out.same (HSame.out j hjk (.inl hbt)))
                    clear hb hb2 hbt hmn
                    generalize sg (q - pcN S (j + 1)) = s at *
                    have hs0 : -1 ≤ s := by omega
                    have hs1 : s ≤ 1 := by omega
                    clear hspm
                    go_wp2_with fail
                    refine (HB1.out _).mono ?_
                    rintro e w1 ⟨rfl, rfl⟩
                    go_wp2_with fail
                    go_roundw
                    case rel => exact ⟨j, by omega, rfl, by rw [HP.out], HD.out⟩
                    case measure => simp [intOf]
                  · rw [decide_eq_false hbt] at HB1
                    have hb0 : bt S j = 0 := by omega
                    have HP := Lib.hid (show sg (q - pcN S j) = sg (q - pcN S (j + 1)) by rw [show pcN S (j + 1) = pcN S j by omega])
                    obtain ⟨ad, hA, hab, A1, c1, ea, ra⟩ := mx_cell (HI.out.below hd.out.1) HLi.out
                    obtain ⟨z, hz⟩ : ∃ z, l[j]? = some z := ⟨l[j]'(by have := Hll.out; omega), List.getElem?_eq_getElem (by have := Hll.out; omega)⟩
                    obtain ⟨ad2, rfl, hab2, ez⟩ := ints_cell ra hz
                    have haz := HMf.out q j l z HLi.out hz
                    rw [Hll.out] at ea
                    subst hA
                    have hq0 : (0 : Int) ≤ (q : Int) := Int.natCast_nonneg _
                    have hq1 : (q : Int) < (k : Int) := by omega
                    by_cases hzz : z = 0
                    · have HD := Lib.hid (hd.out.same (HSame.out j hjk (.inr (haz.trans hzz))))
                      have hzI : (z != 0) = false := by simp [hzz]
                      clear hb hb2 hbt hmn hb0 hz ra haz hzz hspm
                      generalize sg (q - pcN S (j + 1)) = s at *
                      go_wp2_with fail
                      refine (HB1.out _).mono ?_
                      rintro e w1 ⟨rfl, rfl⟩
                      go_wp2_with fail
                      go_roundw
                      case rel => exact ⟨j, by omega, rfl, by rw [HP.out], HD.out⟩
                      case measure => simp [intOf]
                    · have hzI : (z != 0) = true := by simp [hzz]
                      have hT : S + 2 ^ j < 2 ^ k := add_lt HSn.out hjk hb0
                      have hcT := hd.out.cell hT
                      have hcP := hcS.out _ _ hd.out
                      have hfT := hd.out.2.frozenAt (S + 2 ^ j)
                      have hput := HPut.out j hjk hb0
                      rw [haz] at hput
                      generalize hac : acc a k (S + 2 ^ j) S (j + 1) = ac at *
                      have HPt := Lib.hid (fun (z' : Int) (e : z' = wrap64 (ac + sg (q - pcN S (j + 1)) * P * z)) => hd.out.put (S' := S) (κ' := j) (t := S + 2 ^ j) (z := z') (by subst e; exact hput))
                      have hT2 : S + 2 ^ j < N := by have := HN.out; omega
                      have hor : bits .or .i64 (S : Int) (wrap64 (2 ^ j)) = ((S + 2 ^ j : Nat) : Int) := by
                        have hpb := pow_bd (j : Int) (by omega)
                        have := or_is (o := (S : Int)) (g := (j : Int)) (by omega) (by omega) (by omega) (by omega)
                        rw [bitZ_bt (by omega) (by omega), Int.toNat_natCast, Int.toNat_natCast, hb0, if_neg (by decide)] at this
                        rw [Int.toNat_natCast] at hpb
                        rw [IntWalk.wrap64_in _ (by omega), this]; simp
                      have HW : Hid (∀ s : Int, wrap64 (wrap64 ac + wrap64 (wrap64 (s * P) * z)) = wrap64 (ac + s * P * z)) := Lib.hid fun s => by rw [wrap_add, wrap_mul, wrap_add']
                      clear hb hb2 hbt hmn hb0 hz ra haz hzz hspm hput hT hac
                      generalize sg (q - pcN S (j + 1)) = s at *
                      generalize hTt : S + 2 ^ j = T at *
                      generalize wrap64 ac = Pt at *
                      have hT0 : (0 : Int) ≤ (T : Int) := Int.natCast_nonneg _
                      have hT1 : (T : Int) < (N : Int) := by omega
                      go_wp2_with fail
                      refine (HB1.out _).mono ?_
                      rintro e w1 ⟨rfl, rfl⟩
                      go_wp2_with fail
                      go_region
                      all_goals go_wp2_with fail
                      go_roundw
                      case rel => exact ⟨j, by omega, rfl, by rw [HP.out], (HPt.out _ (HW.out s)).call ⟨rfl, rfl, rfl, Nat.le_refl _, fun _ _ => rfl⟩⟩
                      case measure => simp [intOf]
    · obtain rfl : S = N := by omega
      have hdS : decide ((S : Int) < (S : Int)) = false := by simp
      have hcell := own_cellI hd.out.2 (pl_end (a := a) (n := n) (S := S) (κ := n) (by have := HN.out; omega))
      rw [← HN.out] at hcell
      have hi0 : (0 : Int) ≤ (S : Int) - 1 := by omega
      have hi1 : (S : Int) - 1 < (S : Int) := by omega
      have hi2 : ((S : Int) - 1).toNat = S - 1 := by omega
      go_wp2_with fail
      go_ret
      exact HK.out _ hd.out.1

theorem determinant_any (A : Option Addr) (n c : Nat) (ls : List (List Int)) (W : World) (hn : ls.length = n) (hm : n ≤ 1048576) (hl : ∀ l ∈ ls, l.length ≤ 1048576) (hi : MxIn W W.heap.size A ls) :
    Calls Try.prog 54 #[.slice A n c] W (Nm (deZ ls) W) := by
  have HS := Lib.hid (fun X (h : Below W.heap.size W X) => squareOk_any A n c ls X hn hm hl ((hi.below h).more h.size))
  have HB := Lib.hid (fun o => below_box W o)
  have HR := Lib.hid (Below.refl W.heap.size W)
  have HK := @Lib.hid _ (fun w' v e b => @nm_mk v (deZ ls) W w' e b)
  by_cases hq : sqB ls = true
  · obtain ⟨q1, q2⟩ := sq_len hq
    have HD := Lib.hid (fun X (h : Below W.heap.size W X) => l11Det_any A n c ls X hn (by omega) (fun l hl => by rw [(q2 l hl).1, hn]) ((hi.below h).more h.size))
    have HE : Hid (wrap64 (dm (mfn ls) (List.range n)) = deZ ls) := Lib.hid (by unfold deZ; rw [if_pos hq, hn])
    rw [hq] at HS
    clear hn hm hl hi q1 q2 hq
    generalize wrap64 (dm (mfn ls) (List.range n)) = v at *
    go_enter Try.func54, Try.ntmps54
    go_wp2_with fail
    refine (HS.out _ HR.out).mono ?_
    rintro e w1 ⟨rfl, hb⟩
    have hb1 := Lib.hid hb
    clear hb
    go_wp2_with fail
    refine (HD.out _ hb1.out).mono ?_
    rintro e w2 ⟨rfl, hb⟩
    have hb2 := Lib.hid (below_call hb1.out hb)
    clear hb
    go_wp2_with fail
    go_ret
    exact HK.out _ _ HE.out hb2.out
  · rw [show sqB ls = false by simpa using hq] at HS
    have HE : Hid ((0 : Int) = deZ ls) := Lib.hid (by unfold deZ; rw [if_neg hq])
    clear hn hm hl hi hq
    go_enter Try.func54, Try.ntmps54
    go_wp2_with fail
    refine (HS.out _ HR.out).mono ?_
    rintro e w1 ⟨rfl, hb⟩
    have hb1 := Lib.hid hb
    clear hb
    go_wp2_with fail
    go_ret
    exact HK.out _ _ HE.out hb1.out
end Go.Proofs.Ythgnhamokikhkaa.matO

/- The contract of the model's WithoutRow. -/
namespace Go.Proofs.Ythgnhamokikhkaa.matQ
open Go.ChangeShapes Go.WideShapes Go.ChangeAt Go.RowKit
open draw gridP gridC gridE bitP mazeP mazeC mazeM mazeR mazeS intsP reachD intA intK listK rowsP matP matM
set_option linter.unusedVariables false

/-- The rows so far. -/
def wo (ls : List (List Int)) (k i : Nat) : List (List Int) := ((ls.take i).eraseIdx k).map (fun l => l.eraseIdx k)
theorem wo_zero (ls : List (List Int)) (k : Nat) : wo ls k 0 = [] := by simp [wo]
theorem wo_skip (ls : List (List Int)) (k : Nat) : wo ls k (k + 1) = wo ls k k := by
  unfold wo
  rw [List.eraseIdx_eq_take_drop_succ, List.eraseIdx_eq_take_drop_succ, List.take_take, List.take_take, Nat.min_eq_left (Nat.le_succ k), Nat.min_self,
    List.drop_eq_nil_of_le (by simp; omega), List.drop_eq_nil_of_le (by simp; omega)]
theorem wo_next {ls : List (List Int)} {k i : Nat} {l : List Int} (hl : ls[i]? = some l) (h : i ≠ k) : wo ls k (i + 1) = wo ls k i ++ [l.take k ++ l.drop (k + 1)] := by
  have hi : i < ls.length := (List.getElem?_eq_some_iff.1 hl).1
  unfold wo
  rw [List.take_add_one, hl, Option.toList_some]
  rcases Nat.lt_or_ge k i with h' | h'
  · rw [List.eraseIdx_append_of_lt_length (by simp; omega), List.map_append, List.map_singleton, List.eraseIdx_eq_take_drop_succ l]
  · rw [List.eraseIdx_of_length_le (by simp; omega), List.eraseIdx_of_length_le (by simp; omega), List.map_append, List.map_singleton, List.eraseIdx_eq_take_drop_succ l]
theorem wo_all (ls : List (List Int)) (k : Nat) : wo ls k ls.length = (ls.eraseIdx k).map (fun l => l.eraseIdx k) := by unfold wo; rw [List.take_length]
theorem wo_len (ls : List (List Int)) (k i : Nat) : (wo ls k i).length ≤ ls.length := by
  unfold wo
  rw [List.length_map]
  exact Nat.le_trans (List.length_eraseIdx_le _ _) (by simp; omega)

/-- An append, of no elements too, as one step of a region that draws. -/
theorem step_app {P : Program} {ops : Array Oper} {o : Oper} {a : Act} {w : World} {K : Act → World → Prop} {Q : Exit → Act → World → Prop} {E : Prop}
    (hg : o.guard = none) (s x : Operand) (t : TypeId) (hop : o.op = Op.call { callee := Callee.builtin Builtin.append, args := #[s, x], argTypes := #[t, t] })
    (base : Nat) (e : TypeId) (i : TypeInfo) (z : Value) (size bytes : Nat) (h1 : P.underlying t = some (.slice e)) (h2 : P.info? e = some i) (h3 : i.zero = some z) (h4 : i.size = size) (h5 : i.bytes = bytes) (h6 : z.cells.size = size) (h7 : 0 < size)
    (v : Value) (n : Nat) (xs : List Value) (hs : a.eval s = v) (hown : w.ownsRow base e size v n xs)
    (ad : Addr) (m c : Nat) (news : List Value) (hx : a.eval x = .slice (some ad) m c) (hn : news.length = m * size) (hc : ∀ j u, news[j]? = some u → w.cell? (ad.add j) = some u) (h1c : ∀ u ∈ news, u.oneCell' = true)
    (N : Nat) (ys : List Value) (hN : n + m = N) (hy : xs ++ news = ys) (b1 : N ≤ maxLen) (b2 : N * bytes ≤ 140737488355328) (hb : base ≤ w.heap.size)
    (hK : ∀ A' c' w', w'.ownsRow base e size (.slice A' N c') N ys → w.grownBy w' v.ownBlock → K (a.put o.dst (.slice A' N c')) w') :
    if Region.wanted o (yielded ops a.tmps) = true then Oper.wp P o a w K Q else E := by
  have hw : Region.wanted o (yielded ops a.tmps) = true := by simp [Region.wanted, hg]
  rw [if_pos hw]
  subst hN hy
  obtain ⟨v', w', hrun, r1, r2, -⟩ := run_append_own_at (P := P) w base t o.type e i z size bytes h1 h2 h3 h4 h5 h6 h7 v n xs hown ad m c news hn hc h1c b1 b2 hb
  obtain ⟨A', c', rfl⟩ := own_form r1
  unfold Oper.wp
  simp [execOp, hop, resolve, invoke, builtin, hs, hx, hrun, Result.andThen]
  exact hK A' c' w' r1 r2

theorem below_step {B base n s : Nat} {W X X' : World} {e : TypeId} {v : Value} {xs : List Value} (hb : Below B W X) (hB : B ≤ base) (hw : B ≤ W.heap.size) (ho : X.ownsRow base e s v n xs) (g : X.grownBy X' v.ownBlock) : Below B W X' :=
  hb.grown g (Nat.le_trans hw hb.size) (fun q hk => Nat.le_trans hB (ho.lt q hk).1)
theorem cells_int {X : World} {a : Addr} {l : List Int} (h : ∀ j u, l[j]? = some u → X.cell? (a.add j) = some (.int .i64 u)) : ∀ j u, (icells l)[j]? = some u → X.cell? (a.add j) = some u := fun j u hu => by
  unfold icells at hu
  rw [List.getElem?_map] at hu
  cases hl : l[j]? with
  | none => rw [hl] at hu; cases hu
  | some z => rw [hl] at hu; rw [h j z hl, ← Option.some.inj hu]
theorem take_cells {X : World} {a : Addr} {l : List Int} {k : Nat} (h : ∀ j u, l[j]? = some u → X.cell? (a.add j) = some (.int .i64 u)) : ∀ j u, (l.take k)[j]? = some u → X.cell? (a.add j) = some (.int .i64 u) := fun j u hu => by
  rw [List.getElem?_take] at hu
  split at hu
  · exact h j u hu
  · cases hu

/-- A row was built from two parts: what the rows are then. -/
theorem row_built {W X X2 X3 : World} {b m q : Nat} {ls : List (List Int)} {v v2 v3 : Value} {xs : List Value} {l : List Int} (h : ML W b ls v X)
    (g1 : (X.alloc (.cells #[] 3)).grownBy X2 (some X.heap.size)) (o2 : X2.ownsRow X.heap.size 3 1 v2 m xs) (g2 : X2.grownBy X3 v2.ownBlock) (hq : q = l.length) (o3 : X3.ownsRow X.heap.size 3 1 v3 q (icells l)) :
    ∃ cs : List Value, X3.ownsRow b 34 1 v ls.length cs ∧ ∀ (o : Obj) (X5 : World) (gg cap : Nat), X5.ownsRow b 34 1 (.slice (some ⟨gg, 0, none⟩) (ls.length + 1) cap) (ls.length + 1) (cs ++ [v3]) → (X3.alloc o).grownBy X5 v.ownBlock →
      ML W b (ls ++ [l]) (.slice (some ⟨gg, 0, none⟩) (ls.length + 1) cap) X5 := by
  subst hq
  have b1 : Below X.heap.size X X2 := ((Below.refl _ _).alloc (Nat.le_refl _) _).grown g1 (by simp) (fun g hk => by cases hk; exact Nat.le_refl _)
  have b2 : Below X.heap.size X X3 := b1.grown g2 b1.size (fun g hk => (o2.lt g hk).1)
  obtain ⟨cs, c1, c3, c4, c5⟩ := h.parts
  have e1 := own_call c1 b2
  refine ⟨cs, e1, fun o X5 gg cap h5 hg => ?_⟩
  refine ((h.call b2).app ⟨e1, fun i k hk => ?_, c4⟩ (own_base o3 h.2.2.1) (fun i c g hc hg' e => ?_) h5 hg).1
  · obtain ⟨c, d1, d2, d3⟩ := c3 i k hk
    exact ⟨c, d1, own_call d2 b2, fun g hg => Nat.lt_of_lt_of_le (d3 g hg) b2.size⟩
  · have := c5 i c g hc hg'
    have := (o3.lt g e).1
    omega

set_option maxRecDepth 100000 in
set_option maxHeartbeats 4000000 in
theorem withoutRow_any (A : Option Addr) (n c : Nat) (ls : List (List Int)) (k : Int) (W : World) (hn : ls.length = n) (hm : n ≤ 1048576) (hl : ∀ l ∈ ls, l.length ≤ 1048576) (hi : MxIn W W.heap.size A ls) :
    Calls Try.prog 57 #[.slice A n c, .int .i64 k] W (Mtx (woL ls k) W) := by
  have HS := Lib.hid (fun X (h : Below W.heap.size W X) => squareOk_any A n c ls X hn hm hl ((hi.below h).more h.size))
  have HN := Lib.hid (fun X => in_b k 0 ((n : Int) - 1) X)
  have hol0 := Lib.hid (ml_new (Below.refl W.heap.size W) (Nat.le_refl _))
  have HK := @Lib.hid _ (fun w' v (e : woL ls k = []) (h : ML W W.heap.size [] v w') => (by rw [e]; exact mtx_mk h.2.2.2 h.2.1 (Nat.le_refl _) h.1 : Mtx (woL ls k) W (.returned v) w'))
  by_cases hq : sqB ls = true
  · obtain ⟨q1, q2⟩ := sq_len hq
    rw [hq] at HS
    by_cases hk : 0 ≤ k ∧ k < n
    · obtain ⟨κ, rfl⟩ : ∃ κ : Nat, k = (κ : Int) := ⟨k.toNat, by omega⟩
      have hκ : κ < n := by omega
      rw [show inB (κ : Int) 0 ((n : Int) - 1) = true from decide_eq_true (by omega)] at HN
      obtain ⟨j0, hj0, hy0, hy1, hy2⟩ := info_parts info_row
      obtain ⟨i0, hi0, hz0, hz1, hz2⟩ := info_parts info_int
      have hn16 : n ≤ 16 := by omega
      have HI := Lib.hid hi
      have HL : Hid (∀ l ∈ ls, l.length = n) := Lib.hid fun l h => by rw [(q2 l h).1, hn]
      have Hn := Lib.hid hn
      have HE : Hid (∀ v w', ML W W.heap.size (wo ls κ n) v w' → Mtx (woL ls κ) W (.returned v) w') := Lib.hid fun v w' h => by
        have e : woL ls κ = wo ls κ n := by
          unfold woL
          rw [if_pos ⟨hq, by omega, by rw [hn]; omega⟩, ← hn, wo_all, Int.toNat_natCast]
        rw [e]
        exact mtx_mk h.2.2.2 h.2.1 (Nat.le_refl _) h.1
      have HW : Hid (∀ i, (wo ls κ i).length ≤ 16) := Lib.hid fun i => by have := wo_len ls κ i; omega
      clear hn hm hl hi q1 q2 hq hk HK
      have hκ0 : (0 : Int) ≤ (κ : Int) := Int.natCast_nonneg _
      have hκ1 : (κ : Int) < (n : Int) := by omega
      go_enter Try.func57, Try.ntmps57
      go_wp2_with fail
      refine (HS.out _ hol0.out.1).mono ?_
      rintro e w1 ⟨rfl, hb⟩
      have hol := Lib.hid (hol0.out.call hb)
      clear hb hol0 HS
      go_wp2_with fail
      refine (HN.out _).mono ?_
      rintro e w2 ⟨rfl, rfl⟩
      clear HN
      go_wp2_with fail
      go_loopw [5, 6] (fun u5 u6 wr => ∃ i : Nat, i ≤ n ∧ u6 = .int .i64 i ∧ ML W W.heap.size (wo ls κ i) u5 wr) (fun _ u6 _ => n - (intOf u6).toNat)
      case atStart => exact ⟨0, Nat.zero_le _, rfl, by rw [wo_zero]; exact hol.out⟩
      case round =>
        clear hol
        obtain ⟨i, hi, rfl, hol0⟩ := hrel
        have hol := Lib.hid hol0
        clear hol0
        have hi0' : (0 : Int) ≤ (i : Int) := Int.natCast_nonneg _
        by_cases hin : i < n
        · have hi1 : (i : Int) < (n : Int) := by omega
          by_cases hik : i = κ
          · subst hik
            have hne : ((i : Int) != (i : Int)) = false := by simp
            go_wp2_with fail
            go_roundw
            case rel => exact ⟨i + 1, by omega, by go_num, by rw [wo_skip]; exact hol.out⟩
            case measure => simp [intOf]; omega
          · have hne : ((i : Int) != (κ : Int)) = true := by rw [bne_iff_ne]; omega
            obtain ⟨l, hl⟩ : ∃ l, ls[i]? = some l := ⟨ls[i]'(by have := Hn.out; omega), List.getElem?_eq_getElem (by have := Hn.out; omega)⟩
            have hll := HL.out l (List.mem_of_getElem? hl)
            obtain ⟨ad, rfl, hab, A1, c1, ea0, ra, hc1, hc2⟩ := mx_cell2 HI.out hl
            rw [hll] at ea0 hc1
            obtain ⟨ai, rfl, hai, hcs⟩ := ra (by intro e; rw [e] at hll; simp at hll; omega)
            have HSx : Hid (∀ X, Below W.heap.size W X → X.cell? (ad.add i) = some (.slice (some ai) n c1)) := Lib.hid fun X hb => (hb.cell (by rw [block_of_add]; exact hab)).trans ea0
            have HCs : Hid (∀ X, Below W.heap.size W X → ∀ j u, l[j]? = some u → X.cell? (ai.add j) = some (.int .i64 u)) := Lib.hid fun X hb j u hj => (hb.cell (by rw [block_of_add]; exact hai)).trans (hcs j u hj)
            have ea := HSx.out _ hol.out.1
            obtain ⟨Av, cv, rfl⟩ := hol.out.form
            have hkc : κ ≤ c1 := by omega
            have hwr : IntKind.i64.wrap ((κ : Int) + 1) = (κ : Int) + 1 := IntWalk.i64_in _ (by omega)
            have hp0 : (0 : Int) ≤ (κ : Int) + 1 := by omega
            have hp1 : (κ : Int) + 1 ≤ (n : Int) := by omega
            obtain ⟨aj, hif, hds⟩ : ∃ aj : Addr, (if c1 = κ + 1 then some ai else some ({ block := ai.block, off := ai.off + (κ + 1) } : Addr)) = some aj ∧ (∀ X, Below W.heap.size W X → ∀ j u, (l.drop (κ + 1))[j]? = some u → X.cell? (aj.add j) = some (.int .i64 u)) := by
              by_cases hcp : c1 = κ + 1
              · refine ⟨ai, if_pos hcp, fun X hb j u hj => ?_⟩
                rw [List.drop_eq_nil_of_le (by omega)] at hj
                simp at hj
              · refine ⟨ai.add (κ + 1), (if_neg hcp).trans (by simp [Addr.add]), fun X hb j u hj => ?_⟩
                rw [List.getElem?_drop] at hj
                rw [Addr.add_add]
                exact HCs.out X hb _ u hj
            have HDs := Lib.hid hds
            have HO : Hid ((wr.alloc (.cells #[] 3)).drew.ownsRow wr.heap.size 3 1 (.slice (some ⟨wr.heap.size, 0, none⟩) 0 0) 0 []) := Lib.hid (ol_new (Below.refl wr.drew.heap.size wr.drew) (Nat.le_refl _)).2.2.2
            have HB0 : Hid (Below W.heap.size W (wr.alloc (.cells #[] 3)).drew) := Lib.hid (hol.out.dr.1.alloc hol.out.1.size _)
            have HZ : Hid (wr.heap.size ≤ (wr.alloc (.cells #[] 3)).drew.heap.size) := Lib.hid (by show _ ≤ (wr.heap.push _).size; simp)
            have HT1 : Hid ((icells (l.take κ)).length = κ * 1) := Lib.hid (by rw [icells_length, List.length_take]; omega)
            have HT2 : Hid ((icells (l.drop (κ + 1))).length = (n - (κ + 1)) * 1) := Lib.hid (by rw [icells_length, List.length_drop]; omega)
            have HT3 : Hid (n - 1 = (l.take κ ++ l.drop (κ + 1)).length) := Lib.hid (by rw [List.length_append, List.length_take, List.length_drop]; omega)
            clear hds
            go_wp2_with fail
            try simp only [List.cons_append, List.nil_append, List.append_eq]
            refine wp_region_held_drew (S := (fun w' => w'.cell? (ad.add i) = some (.slice (some ai) n c1))) (by kernel_rfl) ?_ (fun hHeld0 => ?_)
            · (try dsimp only); go_keep
            refine wpAnyH_take (i := 0) (oi := { dst := some 29, op := Go.Op.move (Go.Operand.tmp 5), type := 38, pos := "l11_det.go:105", after := #[], guard := none }) (v := ?_) rfl (by kernel_rfl) (by kernel_rfl) (by kernel_rfl) (fun _ _ _ h => h) (Or.inl ⟨by rfl, ?_⟩) (by assumption) ?_
            rotate_left
            · (intro w hSw; (try dsimp only at hSw); go_simp; try with_reducible rfl)
            try simp only [Act.put, List.setIfInBounds_toArray, List.set_cons_zero, List.set_cons_succ]
            refine wpAnyH_take (i := 2) (oi := { dst := some 31, op := Go.Op.move (Go.Operand.tmp 0), type := 38, pos := "l11_det.go:105", after := #[], guard := none }) (v := ?_) rfl (by kernel_rfl) (by kernel_rfl) (by kernel_rfl) (fun _ _ _ h => h) (Or.inl ⟨by rfl, ?_⟩) (by assumption) ?_
            rotate_left
            · (intro w hSw; (try dsimp only at hSw); go_simp; try with_reducible rfl)
            try simp only [Act.put, List.setIfInBounds_toArray, List.set_cons_zero, List.set_cons_succ]
            refine wpAnyH_take (i := 3) (oi := { dst := some 32, op := Go.Op.move (Go.Operand.tmp 6), type := 3, pos := "l11_det.go:105", after := #[], guard := none }) (v := ?_) rfl (by kernel_rfl) (by kernel_rfl) (by kernel_rfl) (fun _ _ _ h => h) (Or.inl ⟨by rfl, ?_⟩) (by assumption) ?_
            rotate_left
            · (intro w hSw; (try dsimp only at hSw); go_simp; try with_reducible rfl)
            try simp only [Act.put, List.setIfInBounds_toArray, List.set_cons_zero, List.set_cons_succ]
            refine wpAnyH_take (i := 4) (oi := { dst := some 33, op := Go.Op.indexAddr 38 (Go.Operand.tmp 31) (Go.Operand.tmp 32), type := 0, pos := "l11_det.go:105", after := #[{ on := 2, ground := Go.Ground.data }, { on := 3, ground := Go.Ground.data }], guard := none }) (v := ?_) rfl (by kernel_rfl) (by kernel_rfl) (by kernel_rfl) (fun _ _ _ h => h) (Or.inl ⟨by rfl, ?_⟩) (by assumption) ?_
            rotate_left
            · (intro w hSw; (try dsimp only at hSw); go_simp; try with_reducible rfl)
            try simp only [Act.put, List.setIfInBounds_toArray, List.set_cons_zero, List.set_cons_succ]
            refine wpAnyH_take (i := 5) (oi := { dst := some 34, op := Go.Op.load 34 (Go.Operand.tmp 33), type := 34, pos := "l11_det.go:105", after := #[{ on := 4, ground := Go.Ground.data }], guard := none }) (v := ?_) rfl (by kernel_rfl) (by kernel_rfl) (by kernel_rfl) (fun _ _ _ h => h) (Or.inl ⟨by rfl, ?_⟩) (by assumption) ?_
            rotate_left
            · (intro w hSw; (try dsimp only at hSw); go_simp; try with_reducible rfl)
            try simp only [Act.put, List.setIfInBounds_toArray, List.set_cons_zero, List.set_cons_succ]
            refine wpAnyH_take (i := 6) (oi := { dst := some 35, op := Go.Op.move (Go.Operand.tmp 1), type := 3, pos := "l11_det.go:105", after := #[], guard := none }) (v := ?_) rfl (by kernel_rfl) (by kernel_rfl) (by kernel_rfl) (fun _ _ _ h => h) (Or.inl ⟨by rfl, ?_⟩) (by assumption) ?_
            rotate_left
            · (intro w hSw; (try dsimp only at hSw); go_simp; try with_reducible rfl)
            try simp only [Act.put, List.setIfInBounds_toArray, List.set_cons_zero, List.set_cons_succ]
            refine wpAnyH_take (i := 7) (oi := { dst := some 36, op := Go.Op.slice 34 (Go.Operand.tmp 34) none (some (Go.Operand.tmp 35)) none, type := 34, pos := "l11_det.go:105", after := #[{ on := 5, ground := Go.Ground.data }, { on := 6, ground := Go.Ground.data }], guard := none }) (v := ?_) rfl (by kernel_rfl) (by kernel_rfl) (by kernel_rfl) (fun _ _ _ h => h) (Or.inl ⟨by rfl, ?_⟩) (by assumption) ?_
            rotate_left
            · (intro w hSw; (try dsimp only at hSw); go_simp; try with_reducible rfl)
            try simp only [Act.put, List.setIfInBounds_toArray, List.set_cons_zero, List.set_cons_succ]
            refine wpAnyH_take (i := 9) (oi := { dst := some 38, op := Go.Op.move (Go.Operand.tmp 0), type := 38, pos := "l11_det.go:105", after := #[], guard := none }) (v := ?_) rfl (by kernel_rfl) (by kernel_rfl) (by kernel_rfl) (fun _ _ _ h => h) (Or.inl ⟨by rfl, ?_⟩) (by assumption) ?_
            rotate_left
            · (intro w hSw; (try dsimp only at hSw); go_simp; try with_reducible rfl)
            try simp only [Act.put, List.setIfInBounds_toArray, List.set_cons_zero, List.set_cons_succ]
            refine wpAnyH_take (i := 10) (oi := { dst := some 39, op := Go.Op.move (Go.Operand.tmp 6), type := 3, pos := "l11_det.go:105", after := #[], guard := none }) (v := ?_) rfl (by kernel_rfl) (by kernel_rfl) (by kernel_rfl) (fun _ _ _ h => h) (Or.inl ⟨by rfl, ?_⟩) (by assumption) ?_
            rotate_left
            · (intro w hSw; (try dsimp only at hSw); go_simp; try with_reducible rfl)
            try simp only [Act.put, List.setIfInBounds_toArray, List.set_cons_zero, List.set_cons_succ]
            refine wpAnyH_take (i := 11) (oi := { dst := some 40, op := Go.Op.indexAddr 38 (Go.Operand.tmp 38) (Go.Operand.tmp 39), type := 0, pos := "l11_det.go:105", after := #[{ on := 9, ground := Go.Ground.data }, { on := 10, ground := Go.Ground.data }], guard := none }) (v := ?_) rfl (by kernel_rfl) (by kernel_rfl) (by kernel_rfl) (fun _ _ _ h => h) (Or.inl ⟨by rfl, ?_⟩) (by assumption) ?_
            rotate_left
            · (intro w hSw; (try dsimp only at hSw); go_simp; try with_reducible rfl)
            try simp only [Act.put, List.setIfInBounds_toArray, List.set_cons_zero, List.set_cons_succ]
            refine wpAnyH_take (i := 12) (oi := { dst := some 41, op := Go.Op.load 34 (Go.Operand.tmp 40), type := 34, pos := "l11_det.go:105", after := #[{ on := 11, ground := Go.Ground.data }], guard := none }) (v := ?_) rfl (by kernel_rfl) (by kernel_rfl) (by kernel_rfl) (fun _ _ _ h => h) (Or.inl ⟨by rfl, ?_⟩) (by assumption) ?_
            rotate_left
            · (intro w hSw; (try dsimp only at hSw); go_simp; try with_reducible rfl)
            try simp only [Act.put, List.setIfInBounds_toArray, List.set_cons_zero, List.set_cons_succ]
            refine wpAnyH_take (i := 13) (oi := { dst := some 42, op := Go.Op.move (Go.Operand.tmp 1), type := 3, pos := "l11_det.go:105", after := #[], guard := none }) (v := ?_) rfl (by kernel_rfl) (by kernel_rfl) (by kernel_rfl) (fun _ _ _ h => h) (Or.inl ⟨by rfl, ?_⟩) (by assumption) ?_
            rotate_left
            · (intro w hSw; (try dsimp only at hSw); go_simp; try with_reducible rfl)
            try simp only [Act.put, List.setIfInBounds_toArray, List.set_cons_zero, List.set_cons_succ]
            refine wpAnyH_take (i := 14) (oi := { dst := some 43, op := Go.Op.binOp Go.BinOp.add 3 (Go.Operand.tmp 42) (Go.Operand.const (Go.Value.int Go.IntKind.i64 1)) 3, type := 3, pos := "l11_det.go:105", after := #[{ on := 13, ground := Go.Ground.data }], guard := none }) (v := ?_) rfl (by kernel_rfl) (by kernel_rfl) (by kernel_rfl) (fun _ _ _ h => h) (Or.inl ⟨by rfl, ?_⟩) (by assumption) ?_
            rotate_left
            · (intro w hSw; (try dsimp only at hSw); go_simp; try with_reducible rfl)
            try simp only [Act.put, List.setIfInBounds_toArray, List.set_cons_zero, List.set_cons_succ]
            refine wpAnyH_take (i := 15) (oi := { dst := some 44, op := Go.Op.slice 34 (Go.Operand.tmp 41) (some (Go.Operand.tmp 43)) none none, type := 34, pos := "l11_det.go:105", after := #[{ on := 12, ground := Go.Ground.data }, { on := 14, ground := Go.Ground.data }], guard := none }) (v := ?_) rfl (by kernel_rfl) (by kernel_rfl) (by kernel_rfl) (fun _ _ _ h => h) (Or.inl ⟨by rfl, ?_⟩) (by assumption) ?_
            rotate_left
            · (intro w hSw; (try dsimp only at hSw); go_simp; try with_reducible rfl)
            try simp only [Act.put, List.setIfInBounds_toArray, List.set_cons_zero, List.set_cons_succ]
            refine wpAnyH_ready (rs := [1]) (by kernel_rfl) (by simp) ?_
            refine AllReadyH.cons (o := { dst := some 30, op := Go.Op.buildSlice 34 0 #[], type := 34, pos := "l11_det.go:105", after := #[], guard := none }) rfl (fun K1 hK1 => ?_) AllReadyH.nil
            go_simp
            refine hK1.out _ _ ?_ (fun hHeld1 => ?_)
            · (try dsimp only); go_keep
            clear hK1 K1 hHeld0
            try simp only [Act.put, List.setIfInBounds_toArray, List.set_cons_zero, List.set_cons_succ]
            refine wpAnyH_ready (rs := [8]) (by kernel_rfl) (by simp) ?_
            refine AllReadyH.cons (o := { dst := some 37, op := Go.Op.call { callee := Go.Callee.builtin Go.Builtin.append, args := #[Go.Operand.tmp 30, Go.Operand.tmp 36], argTypes := #[34, 34] }, type := 34, pos := "l11_det.go:105", after := #[{ on := 1, ground := Go.Ground.data }, { on := 7, ground := Go.Ground.data }], guard := none }) rfl (fun K8 hK8 => ?_) AllReadyH.nil
            refine step_app rfl (.tmp 30) (.tmp 36) 34 rfl wr.heap.size 3 i0 _ 1 8 Try.underlying34 hi0 hz0 hz1 hz2 rfl (by decide) _ 0 [] rfl HO.out ai κ c1 (icells (l.take κ)) rfl HT1.out (cells_int (take_cells (HCs.out _ HB0.out))) (oneCellI _) κ _ (Nat.zero_add κ) rfl (by unfold maxLen; omega) (by omega) HZ.out ?_; intro A2 c2 w2 o2 g2; have HO2 := Lib.hid o2; have HB2 := Lib.hid (below_step HB0.out hol.out.1.size (Nat.le_refl _) HO.out g2); have HG2 := Lib.hid g2; clear o2 g2
            refine hK8.out _ _ ?_ (fun hHeld2 => ?_)
            · (try dsimp only); exact HSx.out _ HB2.out
            clear hK8 K8 hHeld1
            try simp only [Act.put, List.setIfInBounds_toArray, List.set_cons_zero, List.set_cons_succ]
            refine wpAnyH_ready (rs := [16]) (by kernel_rfl) (by simp) ?_
            refine AllReadyH.cons (o := { dst := some 45, op := Go.Op.call { callee := Go.Callee.builtin Go.Builtin.append, args := #[Go.Operand.tmp 37, Go.Operand.tmp 44], argTypes := #[34, 34] }, type := 34, pos := "l11_det.go:105", after := #[{ on := 8, ground := Go.Ground.data }, { on := 15, ground := Go.Ground.data }, { on := 8, ground := Go.Ground.chain }], guard := none }) rfl (fun K16 hK16 => ?_) AllReadyH.nil
            refine step_app rfl (.tmp 37) (.tmp 44) 34 rfl wr.heap.size 3 i0 _ 1 8 Try.underlying34 hi0 hz0 hz1 hz2 rfl (by decide) _ κ _ rfl HO2.out aj (n - (κ + 1)) (c1 - (κ + 1)) (icells (l.drop (κ + 1))) rfl HT2.out (cells_int (HDs.out _ HB2.out)) (oneCellI _) (n - 1) (icells (l.take κ ++ l.drop (κ + 1))) (by omega) (by rw [icells_append]; rfl) (by unfold maxLen; omega) (by omega) (Nat.le_trans HZ.out HG2.out.size) ?_; intro A3 c3 w3 o3 g3; have HB3 := Lib.hid (below_step HB2.out hol.out.1.size (Nat.le_refl _) HO2.out g3); have HRB := Lib.hid (row_built hol.out.dr HG2.out HO2.out g3 HT3.out o3); clear o3 g3
            refine hK16.out _ _ ?_ (fun hHeld3 => ?_)
            · (try dsimp only); exact HSx.out _ HB3.out
            clear hK16 K16 hHeld2
            try simp only [Act.put, List.setIfInBounds_toArray, List.set_cons_zero, List.set_cons_succ]
            refine wpAnyH_ready (rs := [17]) (by kernel_rfl) (by simp) ?_
            refine AllReadyH.cons (o := { dst := some 46, op := Go.Op.buildSlice 38 1 #[(0, Go.Operand.tmp 45)], type := 38, pos := "l11_det.go:105", after := #[{ on := 16, ground := Go.Ground.data }], guard := none }) rfl (fun K17 hK17 => ?_) AllReadyH.nil
            go_simp
            refine hK17.out _ _ ?_ (fun hHeld4 => ?_)
            · (try dsimp only); exact HSx.out _ (HB3.out.alloc HB3.out.size _)
            clear hK17 K17 hHeld3
            try simp only [Act.put, List.setIfInBounds_toArray, List.set_cons_zero, List.set_cons_succ]
            refine wpAnyH_ready (rs := [18]) (by kernel_rfl) (by simp) ?_
            refine AllReadyH.cons (o := { dst := some 47, op := Go.Op.call { callee := Go.Callee.builtin Go.Builtin.append, args := #[Go.Operand.tmp 29, Go.Operand.tmp 46], argTypes := #[38, 38] }, type := 38, pos := "l11_det.go:105", after := #[{ on := 0, ground := Go.Ground.data }, { on := 17, ground := Go.Ground.data }, { on := 16, ground := Go.Ground.chain }], guard := none }) rfl (fun K18 hK18 => ?_) AllReadyH.nil
            obtain ⟨cs, hcs, hcsN⟩ := HRB.out; refine step_append_lies _ rfl (.tmp 29) (.tmp 46) 38 rfl W.heap.size 34 j0 _ 1 24 Try.underlying38 hj0 hy0 hy1 hy2 rfl (by decide) _ (wo ls κ i).length cs rfl (hcs.alloc _) ⟨w3.heap.size, 0, none⟩ 1 1 [.slice A3 (n - 1) c3] rfl rfl (news_eqI rfl (heap_alloc_new w3 _)) (fun u hu => by rw [List.mem_singleton.1 hu]; rfl) (by omega) (by have := HW.out i; unfold maxLen; omega) (by have := HW.out i; omega) (by have := HB3.out.size; simp; omega) _ rfl ?_; intro gg cap w5 o5 g5 hat hlt2; clear hat hlt2; have HM := Lib.hid (hcsN _ w5 gg cap o5 g5); clear o5 g5 hcsN hcs
            refine hK18.out _ _ ?_ (fun hHeld5 => ?_)
            · (try dsimp only); exact HSx.out _ HM.out.1
            clear hK18 K18 hHeld4
            try simp only [Act.put, List.setIfInBounds_toArray, List.set_cons_zero, List.set_cons_succ]
            refine wpAnyH_take (i := 19) (oi := { dst := some 5, op := Go.Op.assign (Go.Operand.tmp 47), type := 38, pos := "l11_det.go:105", after := #[{ on := 18, ground := Go.Ground.data }, { on := 18, ground := Go.Ground.chain }, { on := 0, ground := Go.Ground.phase }, { on := 1, ground := Go.Ground.phase }, { on := 2, ground := Go.Ground.phase }, { on := 3, ground := Go.Ground.phase }, { on := 4, ground := Go.Ground.phase }, { on := 5, ground := Go.Ground.phase }, { on := 6, ground := Go.Ground.phase }, { on := 7, ground := Go.Ground.phase }, { on := 8, ground := Go.Ground.phase }, { on := 9, ground := Go.Ground.phase }, { on := 10, ground := Go.Ground.phase }, { on := 11, ground := Go.Ground.phase }, { on := 12, ground := Go.Ground.phase }, { on := 13, ground := Go.Ground.phase }, { on := 14, ground := Go.Ground.phase }, { on := 15, ground := Go.Ground.phase }, { on := 16, ground := Go.Ground.phase }, { on := 17, ground := Go.Ground.phase }, { on := 18, ground := Go.Ground.phase }], guard := none }) (v := ?_) rfl (by kernel_rfl) (by kernel_rfl) (by kernel_rfl) (fun _ _ _ h => h) (Or.inl ⟨by rfl, ?_⟩) (by assumption) ?_
            rotate_left
            · (intro w hSw; (try dsimp only at hSw); go_simp; try with_reducible rfl)
            try simp only [Act.put, List.setIfInBounds_toArray, List.set_cons_zero, List.set_cons_succ]
            refine wpAnyH_done (by kernel_rfl) ?_ _
            go_wp2_with fail
            go_roundw
            case rel =>
              refine ⟨i + 1, by omega, by go_num, ?_⟩
              have e1 := wo_next hl hik
              have e2 : (wo ls κ (i + 1)).length = (wo ls κ i).length + 1 := by rw [e1, List.length_append]; rfl
              rw [e1]; exact HM.out
            case measure => simp [intOf]; omega
        · obtain rfl : i = n := by omega
          go_wp2_with fail
          go_ret
          exact HE.out _ _ hol.out
    · rw [show inB k 0 ((n : Int) - 1) = false from decide_eq_false (by omega)] at HN
      have HE : Hid (woL ls k = []) := Lib.hid (by unfold woL; rw [if_neg (by rw [hn]; exact fun h => hk h.2)])
      have hn16 : n ≤ 16 := by omega
      clear hn hm hl hi q1 q2 hq hk
      go_enter Try.func57, Try.ntmps57
      go_wp2_with fail
      refine (HS.out _ hol0.out.1).mono ?_
      rintro e w1 ⟨rfl, hb⟩
      have hol := Lib.hid (hol0.out.call hb)
      clear hb
      go_wp2_with fail
      refine (HN.out _).mono ?_
      rintro e w2 ⟨rfl, rfl⟩
      go_wp2_with fail
      go_ret
      exact HK.out _ _ HE.out hol.out
  · rw [show sqB ls = false by simpa using hq] at HS
    have HE : Hid (woL ls k = []) := Lib.hid (by unfold woL; rw [if_neg (fun h => hq h.1)])
    clear hn hm hl hi hq
    go_enter Try.func57, Try.ntmps57
    go_wp2_with fail
    refine (HS.out _ hol0.out.1).mono ?_
    rintro e w1 ⟨rfl, hb⟩
    have hol := Lib.hid (hol0.out.call hb)
    clear hb
    go_wp2_with fail
    go_ret
    exact HK.out _ _ HE.out hol.out
end Go.Proofs.Ythgnhamokikhkaa.matQ

/- The contract of the model's LaplaceOf. -/
namespace Go.Proofs.Ythgnhamokikhkaa.matR
open Go.ChangeShapes Go.WideShapes Go.ChangeAt Go.RowKit
open draw gridP gridC gridE bitP mazeP mazeC mazeM mazeR mazeS intsP reachD intA intK listK rowsP matP matM matQ
set_option linter.unusedVariables false

/-- A row of the matrix behind the first j of the ways. -/
def lrN (x y z : Int) (n k j : Nat) : List Int := ((wlZ x y z k).take j).foldl (fun r d => r.set (stZ x y z k d).toNat (-1)) ((List.replicate n 0).set k ((wlZ x y z k).length : Int))
theorem fold_set (f : Int → Nat) : ∀ (ds : List Int) (r : List Int), (ds.foldl (fun r d => r.set (f d) (-1)) r).length = r.length
  | [], r => rfl
  | d :: ds, r => by rw [List.foldl_cons, fold_set f ds, List.length_set]
theorem lr_len (x y z : Int) (n k j : Nat) : (lrN x y z n k j).length = n := by
  unfold lrN
  rw [fold_set (fun d => (stZ x y z k d).toNat), List.length_set, List.length_replicate]
theorem lr_next {x y z : Int} {n k j : Nat} {d : Int} (hd : (wlZ x y z k)[j]? = some d) : lrN x y z n k (j + 1) = (lrN x y z n k j).set (stZ x y z k d).toNat (-1) := by
  unfold lrN
  rw [List.take_add_one, hd, Option.toList_some, List.foldl_append]; rfl
theorem lr_zero (x y z : Int) (n k : Nat) : lrN x y z n k 0 = (List.replicate n 0).set k ((wlZ x y z k).length : Int) := rfl
/-- A row of the matrix. -/
def lpr (x y z : Int) (n k : Nat) : List Int := lrN x y z n k (wlZ x y z k).length
/-- The matrix of a maze. -/
def lpZ (x y z : Int) : List (List Int) := if okB x y z = true then (List.range (x * y).toNat).map (lpr x y z (x * y).toNat) else []

theorem lp_len (x y z : Int) : (lpZ x y z).length ≤ 1000 ∧ ∀ l ∈ lpZ x y z, l.length ≤ 1000 := by
  unfold lpZ
  split
  · rename_i h
    have hv : OkM x y z := of_decide_eq_true h
    obtain ⟨⟨h1, h2, h3, h4⟩, -, -⟩ := hv
    have hcc := (mul_bd x y h1 h2 h3 h4).1
    refine ⟨by simp; omega, fun l hl => ?_⟩
    obtain ⟨k, -, rfl⟩ := List.mem_map.1 hl
    unfold lpr
    rw [lr_len]; omega
  · exact ⟨by simp, fun l hl => absurd hl (by simp)⟩

/-- The row that is written, and the ways, in blocks behind those of V. -/
def LS (V : World) (n : Nat) (l ds : List Int) (v : Value) (X : World) : Prop :=
  Below V.heap.size V X ∧ X.ownsRow V.heap.size 3 1 (.slice (some ⟨V.heap.size, 0, none⟩) n n) n (icells l) ∧ X.ownsRow (V.heap.size + 1) 3 1 v ds.length (icells ds)
theorem LS.call {V X X' : World} {n : Nat} {l ds : List Int} {v : Value} (h : LS V n l ds v X) (hb : Below X.heap.size X X') : LS V n l ds v X' := ⟨below_call h.1 hb, own_call h.2.1 hb, own_call h.2.2 hb⟩
theorem LS.dr {V X : World} {n : Nat} {l ds : List Int} {v : Value} (h : LS V n l ds v X) : LS V n l ds v X.drew := h.call ⟨rfl, rfl, rfl, Nat.le_refl _, fun _ _ => rfl⟩
theorem LS.put {V X : World} {n : Nat} {l ds : List Int} {v : Value} (h : LS V n l ds v X) (s : Nat) (u : Int) : LS V n (l.set s u) ds v (X.setCell ⟨V.heap.size, s, none⟩ (.int .i64 u)) := by
  obtain ⟨h1, h2, h3⟩ := h
  obtain ⟨s1, s2⟩ := h2.stored s (.int .i64 u)
  have e : (icells l).set s (.int .i64 u) = icells (l.set s u) := by simp [icells, List.map_set]
  rw [e] at s1
  refine ⟨h1.setCell (Nat.le_refl _) _, s1, h3.kept s2 ?_⟩
  cases hv : v.ownBlock with
  | none => exact .inl rfl
  | some q =>
    refine .inr fun e => ?_
    have := (h3.lt q hv).1
    cases e
    omega
/-- The row takes its place. -/
theorem LS.app {W V X : World} {b n : Nat} {ls : List (List Int)} {l ds : List Int} {v v7 : Value} (h : ML W b ls v V) (hs : LS V n l ds v7 X) (hn : l.length = n) :
    ∃ cs : List Value, X.ownsRow b 34 1 v ls.length cs ∧ ∀ (o : Obj) (X5 : World) (gg cap : Nat), X5.ownsRow b 34 1 (.slice (some ⟨gg, 0, none⟩) (ls.length + 1) cap) (ls.length + 1) (cs ++ [.slice (some ⟨V.heap.size, 0, none⟩) n n]) → (X.alloc o).grownBy X5 v.ownBlock →
      ML W b (ls ++ [l]) (.slice (some ⟨gg, 0, none⟩) (ls.length + 1) cap) X5 ∧ Below b X X5 := by
  subst hn
  obtain ⟨b2, o3, -⟩ := hs
  obtain ⟨cs, c1, c3, c4, c5⟩ := h.parts
  have e1 := own_call c1 b2
  refine ⟨cs, e1, fun o X5 gg cap h5 hg => ?_⟩
  refine (h.call b2).app ⟨e1, fun i k hk => ?_, c4⟩ (own_base o3 h.2.2.1) (fun i c g hc hg' e => ?_) h5 hg
  · obtain ⟨c, d1, d2, d3⟩ := c3 i k hk
    exact ⟨c, d1, own_call d2 b2, fun g hg => Nat.lt_of_lt_of_le (d3 g hg) b2.size⟩
  · have := c5 i c g hc hg'
    have := (o3.lt g e).1
    omega

set_option maxRecDepth 100000 in
set_option maxHeartbeats 4000000 in
theorem laplaceOf_good (x y z : Int) (W : World) (hv : OkM x y z) :
    Calls Try.prog 118 #[.agg #[.int .i64 x, .int .i64 y, .int .i64 z]] W (Mtx (lpZ x y z) W) := by
  obtain ⟨j0, hj0, hy0, hy1, hy2⟩ := info_parts info_row
  obtain ⟨i0, hi0, hz0, hz1, hz2⟩ := info_parts info_int
  obtain ⟨⟨h1, h2, h3, h4⟩, -, -⟩ := id hv
  have hcc := (mul_bd x y h1 h2 h3 h4).1
  have HC : Hid (∀ X, Calls Try.prog 39 #[.agg #[.int .i64 x, .int .i64 y]] X (Nm (x * y) X)) := fun X => gridS.countCells_yes x y X h1 h2 h3 h4
  have HM : Hid (∀ X, Calls Try.prog 116 #[.agg #[.int .i64 x, .int .i64 y, .int .i64 z]] X (Bl true X)) := Lib.hid fun X => by
    have := ok_any x y z X
    rwa [show okB x y z = true from decide_eq_true hv] at this
  have HF := Lib.hid (fun k X => waysFrom_any x y z k X)
  have HS := Lib.hid (fun k d X => step_any x y z k d X)
  obtain ⟨n, hn⟩ := Int.eq_ofNat_of_zero_le (show 0 ≤ x * y by omega)
  have HLt : Hid (∀ k d, d ∈ wlZ x y z k → 0 ≤ stZ x y z k d ∧ stZ x y z k d < (n : Int)) := Lib.hid fun k d hd => by
    have h0 := (mazeQ.wl_mem 4 d hd).2
    refine ⟨h0, ?_⟩
    have hge := nb_ge x y k d
    unfold stZ at h0 ⊢
    split at h0
    · rename_i hp
      rw [if_pos hp]
      have := (nb_some (by omega : ¬ nbZ x y k d < 0)).2.2.2.2
      omega
    · omega
  have HEnd : Hid (∀ v w', ML W (W.heap.size + 1) ((List.range n).map (lpr x y z n)) v w' → Mtx (lpZ x y z) W (.returned v) w') := Lib.hid fun v w' h => by
    have e : lpZ x y z = (List.range n).map (lpr x y z n) := by
      unfold lpZ
      rw [if_pos (show okB x y z = true from decide_eq_true hv), hn]; simp
    rw [e]
    exact mtx_mk h.2.2.2 h.2.1 (Nat.le_refl _) h.1
  have HW4 : Hid (∀ k, (wlZ x y z k).length ≤ 4) := Lib.hid fun k => wlN_len x y z k 4
  have HX0 := Lib.hid (mbox_two x y z W 27 (.cells #[] 34))
  have hol0 : Hid (ML W (W.heap.size + 1) [] (.slice (some ⟨W.heap.size + 1, 0, none⟩) 0 0) ((W.alloc (.cells #[.int .i64 x, .int .i64 y, .int .i64 z] 27)).alloc (.cells #[] 34))) := Lib.hid (by
    have := ml_new (W := W) (X := W.alloc (.cells #[.int .i64 x, .int .i64 y, .int .i64 z] 27)) (below_box W _) (by simp)
    simpa using this)
  rw [hn] at HC hcc
  clear h1 h2 h3 h4 hn hv
  go_enter Try.func118, Try.ntmps118
  go_wp2_with fail
  refine (HC.out _).mono ?_
  rintro e w1 ⟨rfl, hb⟩
  have hol := Lib.hid (hol0.out.call hb)
  have hx := Lib.hid (HX0.out.call hb)
  clear hb hol0 HX0 HC
  go_wp2_with fail
  go_loopw [3, 5] (fun u3 u5 wr => ∃ i : Nat, i ≤ n ∧ u5 = .int .i64 i ∧ ML W (W.heap.size + 1) ((List.range i).map (lpr x y z n)) u3 wr ∧ MBox W.heap.size x y z wr) (fun _ u5 _ => n - (intOf u5).toNat)
  case atStart => exact ⟨0, Nat.zero_le _, rfl, hol.out, hx.out⟩
  case round =>
    clear hol hx
    obtain ⟨i, hi, rfl, hol1, hx1⟩ := hrel
    have hol := Lib.hid hol1
    have hx := Lib.hid hx1
    clear hol1 hx1
    obtain ⟨c0, c1, c2⟩ := hx.out.1
    have hi0' : (0 : Int) ≤ (i : Int) := Int.natCast_nonneg _
    obtain ⟨A3, c3, rfl⟩ := hol.out.form
    have hlen : ((List.range i).map (lpr x y z n)).length = i := by simp
    have hol2 : Hid (ML W (W.heap.size + 1) ((List.range i).map (lpr x y z n)) (.slice A3 i c3) wr) := Lib.hid (by have := hol.out; rw [hlen] at this; exact this)
    clear hol
    have hol := hol2
    clear hol2
    rw [hlen]
    by_cases hin : i < n
    · have hi1 : (i : Int) < (n : Int) := by omega
      have HF1 := Lib.hid (fun X => HF.out (i : Int) X)
      have HS1 := Lib.hid (fun d X => HS.out (i : Int) d X)
      have HL1 := Lib.hid (fun d hd => HLt.out (i : Int) d hd)
      have HW1 := HW4.out (i : Int)
      have HNx := Lib.hid (fun j d hd => @lr_next x y z n i j d hd)
      have HZr := Lib.hid (lr_zero x y z n i)
      have HLn := Lib.hid (fun j => lr_len x y z n i j)
      have HFin : Hid ((List.range (i + 1)).map (lpr x y z n) = (List.range i).map (lpr x y z n) ++ [lrN x y z n i (wlZ x y z i).length]) := Lib.hid (by rw [List.range_succ, List.map_append]; rfl)
      go_wp2_with fail
      refine (HM.out _).mono ?_
      rintro e w1 ⟨rfl, hb⟩
      have hol1 := Lib.hid (hol.out.call hb)
      have hx1 := Lib.hid (hx.out.call hb)
      clear hb hol hx c0 c1 c2
      obtain ⟨c0, c1, c2⟩ := hx1.out.1
      have hmk := run_make (P := Try.prog) w1 34 3 i0 (.int .i64 0) Try.underlying34 hi0 hz0 .i64 .i64 (n : Int) (n : Int) (by omega) (by omega) (by rw [hz2]; omega) (by omega)
      rw [hz1] at hmk
      simp only [Int.toNat_natCast, Nat.mul_one] at hmk
      have hmb := hx1.out.2
      go_wp2_with fail
      refine (HF1.out _).mono ?_
      rintro e w2 ⟨v7, rfl, how, hb2⟩
      have hrow0 := World.ownsRow_lit (base := w1.heap.size) (e := 3) (size := 1) w1 (madeCells (Value.int .i64 0).cells n) n (Nat.le_refl _) (by unfold maxLen; omega) (by rw [size_madeCells]; omega)
      rw [made_zero] at hrow0
      have hs0 : Hid (LS w1 n (List.replicate n 0) (wlZ x y z i) v7 w2) := Lib.hid ⟨below_call (below_box w1 _) hb2, own_call hrow0 hb2, by have h := how; simp at h; exact h⟩
      clear hrow0 how hb2 hmk hmb
      generalize wlZ x y z (i : Int) = ds at *
      obtain ⟨A7, c7, rfl⟩ := own_form hs0.out.2.2
      obtain ⟨m, hm⟩ : ∃ m, ds.length = m := ⟨_, rfl⟩
      rw [hm] at hs0 HW1 HZr HFin ⊢
      have Hm := Lib.hid hm
      clear hm
      have hcell := own_cellI hs0.out.2.1 (show (List.replicate n (0 : Int))[i]? = some 0 by rw [List.getElem?_replicate, if_pos hin])
      have hfz := hs0.out.2.1.frozenAt i
      have hs1 := Lib.hid (hs0.out.put i (m : Int))
      rw [← HZr.out] at hs1
      have HIo : Hid (∀ X l, LS w1 n l ds (.slice A7 m c7) X → IntsIn X X.heap.size A7 ds) := Lib.hid fun X l h => (ints_own (by have := h.2.2; rw [Hm.out] at this; exact this)).1
      clear hs0 HZr c0 c1 c2
      go_wp2_with fail
      clear hcell hfz
      go_loopw [8] (fun u8 wq => ∃ j : Nat, j ≤ m ∧ u8 = .int .i64 j ∧ LS w1 n (lrN x y z n i j) ds (.slice A7 m c7) wq) (fun u8 _ => m - (intOf u8).toNat)
      case atStart => exact ⟨0, Nat.zero_le _, rfl, hs1.out⟩
      case round =>
        clear hs1
        obtain ⟨j, hj, rfl, hs0⟩ := hrel
        have hs := Lib.hid hs0
        clear hs0
        have hjz : (0 : Int) ≤ (j : Int) := Int.natCast_nonneg _
        by_cases hjm : j < m
        · have hj1 : (j : Int) < (m : Int) := by omega
          obtain ⟨d, hd⟩ : ∃ d, ds[j]? = some d := ⟨ds[j]'(by have := Hm.out; omega), List.getElem?_eq_getElem (by have := Hm.out; omega)⟩
          obtain ⟨ad, rfl, hab, ez⟩ := ints_cell (HIo.out _ _ hs.out) hd
          obtain ⟨s0, s1⟩ := HL1.out d (List.mem_of_getElem? hd)
          have HE1 := Lib.hid (HNx.out j d hd)
          have HS2 := Lib.hid (fun X => HS1.out d X)
          obtain ⟨σ, hσ⟩ := Int.eq_ofNat_of_zero_le s0
          rw [hσ] at HS2 HE1 s1
          have HSa : Hid (∀ X l, LS w1 n l ds (.slice (some ad) m c7) X → X.cell? ⟨W.heap.size, 0, none⟩ = some (.int .i64 x) ∧ X.cell? ⟨W.heap.size, 1, none⟩ = some (.int .i64 y) ∧ X.cell? ⟨W.heap.size, 2, none⟩ = some (.int .i64 z) ∧ X.cell? (ad.add j) = some (.int .i64 d)) := Lib.hid fun X l h => by
            obtain ⟨b0, b1, b2⟩ := (hx1.out.call h.1).1
            obtain ⟨ad', e, -, ez'⟩ := ints_cell (HIo.out _ _ h) hd
            cases e
            exact ⟨b0, b1, b2, ez'⟩
          have HEr : Hid (∀ X, LS w1 n (lrN x y z n i j) ds (.slice (some ad) m c7) X → ∃ u, X.cell? ⟨w1.heap.size, σ, none⟩ = some (.int .i64 u) ∧ X.frozen? ⟨w1.heap.size, σ, none⟩ = false) := Lib.hid fun X h => ⟨_, own_cellI h.2.1 (List.getElem?_eq_getElem (by rw [HLn.out]; omega)), h.2.1.frozenAt σ⟩
          obtain ⟨b0, b1, b2, -⟩ := HSa.out _ _ hs.out
          have hσ0 : (0 : Int) ≤ (σ : Int) := Int.natCast_nonneg _
          clear hσ s0 hd hab
          go_wp2_with fail
          try simp only [List.cons_append, List.nil_append, List.append_eq]
          refine wp_region_held_drew (S := (fun w' => w'.cell? ⟨W.heap.size, 0, none⟩ = some (.int .i64 x) ∧ w'.cell? ⟨W.heap.size, 1, none⟩ = some (.int .i64 y) ∧ w'.cell? ⟨W.heap.size, 2, none⟩ = some (.int .i64 z) ∧ w'.cell? (ad.add j) = some (.int .i64 d))) (by kernel_rfl) ?_ (fun hHeld0 => ?_)
          · (try dsimp only); first | go_keep | exact HSa.out _ _ hs.out.dr
          refine wpAnyH_take (i := 0) (oi := { dst := some 38, op := Go.Op.move (Go.Operand.tmp 6), type := 34, pos := "l11_det.go:91", after := #[], guard := none }) (v := ?_) rfl (by kernel_rfl) (by kernel_rfl) (by kernel_rfl) (fun _ _ _ h => h) (Or.inl ⟨by rfl, ?_⟩) (by assumption) ?_
          rotate_left
          · (intro w hSw; (try dsimp only at hSw); go_simp; try with_reducible rfl)
          try simp only [Act.put, List.setIfInBounds_toArray, List.set_cons_zero, List.set_cons_succ]
          refine wpAnyH_take (i := 1) (oi := { dst := some 39, op := Go.Op.load 27 (Go.Operand.tmp 1), type := 27, pos := "l11_det.go:91", after := #[], guard := none }) (v := ?_) rfl (by kernel_rfl) (by kernel_rfl) (by kernel_rfl) (fun _ _ _ h => h) (Or.inl ⟨by rfl, ?_⟩) (by assumption) ?_
          rotate_left
          · (intro w hSw; (try dsimp only at hSw); go_simp; try with_reducible rfl)
          try simp only [Act.put, List.setIfInBounds_toArray, List.set_cons_zero, List.set_cons_succ]
          refine wpAnyH_take (i := 2) (oi := { dst := some 40, op := Go.Op.move (Go.Operand.tmp 5), type := 3, pos := "l11_det.go:91", after := #[], guard := none }) (v := ?_) rfl (by kernel_rfl) (by kernel_rfl) (by kernel_rfl) (fun _ _ _ h => h) (Or.inl ⟨by rfl, ?_⟩) (by assumption) ?_
          rotate_left
          · (intro w hSw; (try dsimp only at hSw); go_simp; try with_reducible rfl)
          try simp only [Act.put, List.setIfInBounds_toArray, List.set_cons_zero, List.set_cons_succ]
          refine wpAnyH_take (i := 3) (oi := { dst := some 41, op := Go.Op.move (Go.Operand.tmp 7), type := 34, pos := "l11_det.go:91", after := #[], guard := none }) (v := ?_) rfl (by kernel_rfl) (by kernel_rfl) (by kernel_rfl) (fun _ _ _ h => h) (Or.inl ⟨by rfl, ?_⟩) (by assumption) ?_
          rotate_left
          · (intro w hSw; (try dsimp only at hSw); go_simp; try with_reducible rfl)
          try simp only [Act.put, List.setIfInBounds_toArray, List.set_cons_zero, List.set_cons_succ]
          refine wpAnyH_take (i := 4) (oi := { dst := some 42, op := Go.Op.move (Go.Operand.tmp 8), type := 3, pos := "l11_det.go:91", after := #[], guard := none }) (v := ?_) rfl (by kernel_rfl) (by kernel_rfl) (by kernel_rfl) (fun _ _ _ h => h) (Or.inl ⟨by rfl, ?_⟩) (by assumption) ?_
          rotate_left
          · (intro w hSw; (try dsimp only at hSw); go_simp; try with_reducible rfl)
          try simp only [Act.put, List.setIfInBounds_toArray, List.set_cons_zero, List.set_cons_succ]
          refine wpAnyH_take (i := 5) (oi := { dst := some 43, op := Go.Op.indexAddr 34 (Go.Operand.tmp 41) (Go.Operand.tmp 42), type := 0, pos := "l11_det.go:91", after := #[{ on := 3, ground := Go.Ground.data }, { on := 4, ground := Go.Ground.data }], guard := none }) (v := ?_) rfl (by kernel_rfl) (by kernel_rfl) (by kernel_rfl) (fun _ _ _ h => h) (Or.inl ⟨by rfl, ?_⟩) (by assumption) ?_
          rotate_left
          · (intro w hSw; (try dsimp only at hSw); go_simp; try with_reducible rfl)
          try simp only [Act.put, List.setIfInBounds_toArray, List.set_cons_zero, List.set_cons_succ]
          refine wpAnyH_take (i := 6) (oi := { dst := some 44, op := Go.Op.load 3 (Go.Operand.tmp 43), type := 3, pos := "l11_det.go:91", after := #[{ on := 5, ground := Go.Ground.data }], guard := none }) (v := ?_) rfl (by kernel_rfl) (by kernel_rfl) (by kernel_rfl) (fun _ _ _ h => h) (Or.inl ⟨by rfl, ?_⟩) (by assumption) ?_
          rotate_left
          · (intro w hSw; (try dsimp only at hSw); go_simp; try with_reducible rfl)
          try simp only [Act.put, List.setIfInBounds_toArray, List.set_cons_zero, List.set_cons_succ]
          refine wpAnyH_ready (rs := [7]) (by kernel_rfl) (by simp) ?_
          refine AllReadyH.cons (o := { dst := some 45, op := Go.Op.call { callee := Go.Callee.value (Go.Operand.func 145), args := #[Go.Operand.tmp 39, Go.Operand.tmp 40, Go.Operand.tmp 44], argTypes := #[27, 3, 3] }, type := 3, pos := "l11_det.go:91", after := #[{ on := 1, ground := Go.Ground.data }, { on := 2, ground := Go.Ground.data }, { on := 6, ground := Go.Ground.data }], guard := none }) rfl (fun K7 hK7 => ?_) AllReadyH.nil
          go_simp
          (refine (HS2.out _).mono ?_; rintro e w3 ⟨rfl, hb3⟩; have hs3 := Lib.hid (hs.out.dr.call hb3); clear hb3; obtain ⟨u, hcr, hfr⟩ := HEr.out _ hs3.out)
          go_wp2_with fail
          refine hK7.out _ _ ?_ (fun hHeld1 => ?_)
          · (try dsimp only); exact HSa.out _ _ hs3.out
          clear hK7 K7 hHeld0
          try simp only [Act.put, List.setIfInBounds_toArray, List.set_cons_zero, List.set_cons_succ]
          refine wpAnyH_take (i := 8) (oi := { dst := some 46, op := Go.Op.indexAddr 34 (Go.Operand.tmp 38) (Go.Operand.tmp 45), type := 0, pos := "l11_det.go:91", after := #[{ on := 0, ground := Go.Ground.data }, { on := 7, ground := Go.Ground.data }, { on := 0, ground := Go.Ground.phase }, { on := 1, ground := Go.Ground.phase }, { on := 2, ground := Go.Ground.phase }, { on := 3, ground := Go.Ground.phase }, { on := 4, ground := Go.Ground.phase }, { on := 5, ground := Go.Ground.phase }, { on := 6, ground := Go.Ground.phase }, { on := 7, ground := Go.Ground.phase }], guard := none }) (v := ?_) rfl (by kernel_rfl) (by kernel_rfl) (by kernel_rfl) (fun _ _ _ h => h) (Or.inl ⟨by rfl, ?_⟩) (by assumption) ?_
          rotate_left
          · (intro w hSw; (try dsimp only at hSw); go_simp; try with_reducible rfl)
          try simp only [Act.put, List.setIfInBounds_toArray, List.set_cons_zero, List.set_cons_succ]
          refine wpAnyH_ready (rs := [9]) (by kernel_rfl) (by simp) ?_
          refine AllReadyH.cons (o := { dst := none, op := Go.Op.store 3 (Go.Operand.tmp 46) (Go.Operand.const (Go.Value.int Go.IntKind.i64 (-1))), type := 0, pos := "l11_det.go:91", after := #[{ on := 8, ground := Go.Ground.data }, { on := 7, ground := Go.Ground.chain }, { on := 0, ground := Go.Ground.phase }, { on := 1, ground := Go.Ground.phase }, { on := 2, ground := Go.Ground.phase }, { on := 3, ground := Go.Ground.phase }, { on := 4, ground := Go.Ground.phase }, { on := 5, ground := Go.Ground.phase }, { on := 6, ground := Go.Ground.phase }, { on := 7, ground := Go.Ground.phase }], guard := none }) rfl (fun K9 hK9 => ?_) AllReadyH.nil
          go_simp
          refine hK9.out _ _ ?_ (fun hHeld2 => ?_)
          · (try dsimp only); exact HSa.out _ _ (hs3.out.put σ (-1))
          clear hK9 K9 hHeld1
          try simp only [Act.put, List.setIfInBounds_toArray, List.set_cons_zero, List.set_cons_succ]
          refine wpAnyH_done (by kernel_rfl) ?_ _
          go_wp2_with fail
          go_roundw
          case rel => exact ⟨j + 1, by omega, by go_num, by rw [HE1.out]; exact hs3.out.put σ (-1)⟩
          case measure => simp [intOf]; omega
        · obtain rfl : j = m := by omega
          obtain ⟨cs, hcs, hcsN⟩ := LS.app hol1.out hs.out (HLn.out j)
          rw [hlen] at hcs hcsN
          have hbq := hol1.out.2.1
          have hbq2 := hol1.out.2.2.1
          have hbq3 := hs.out.1.size
          go_wp2_with (at_builtin; refine wpList_append_lies _ rfl (.tmp 47) (.tmp 49) 38 rfl (W.heap.size + 1) 34 j0 _ 1 24 Try.underlying38 hj0 hy0 hy1 hy2 rfl (by decide) _ i cs rfl (hcs.alloc _) ⟨wr.heap.size, 0, none⟩ 1 1 [.slice (some ⟨w1.heap.size, 0, none⟩) n n] rfl rfl (news_eqI rfl (heap_alloc_new wr _)) (fun u hu => by rw [List.mem_singleton.1 hu]; rfl) (by omega) (by unfold maxLen; omega) (by omega) (by simp; omega) _ rfl ?_; intro gg cap w5 o5 g5 hat hlt2; clear hat hlt2)
          have HM5 := Lib.hid (hcsN _ w5 gg cap o5 g5)
          clear o5 g5 hcsN hcs
          go_roundw
          case rel => exact ⟨i + 1, by omega, by go_num, by rw [HFin.out]; exact HM5.out.1, mbox_keep (hx1.out.call hs.out.1) (Nat.lt_succ_self _) HM5.out.2⟩
          case measure => simp [intOf]; omega
    · obtain rfl : i = n := by omega
      go_wp2_with fail
      go_ret
      exact HEnd.out _ _ hol.out

set_option maxHeartbeats 2000000 in
theorem laplaceOf_bad (x y z : Int) (W : World) (hv : ¬ OkM x y z) :
    Calls Try.prog 118 #[.agg #[.int .i64 x, .int .i64 y, .int .i64 z]] W (Mtx (lpZ x y z) W) := by
  have hC : ∃ v : Int, 0 ≤ v ∧ v ≤ 16 ∧ ∀ X, Calls Try.prog 39 #[.agg #[.int .i64 x, .int .i64 y]] X (Nm v X) := by
    by_cases hg : 1 ≤ x ∧ x ≤ 4 ∧ 1 ≤ y ∧ y ≤ 4
    · obtain ⟨h1, h2, h3, h4⟩ := hg
      have hcc := (mul_bd x y h1 h2 h3 h4).1
      exact ⟨x * y, by omega, by omega, fun X => gridS.countCells_yes x y X h1 h2 h3 h4⟩
    · exact ⟨0, by omega, by omega, fun X => gridS.countCells_no x y X hg⟩
  obtain ⟨v, hv0, hv1, HC0⟩ := hC
  have HC := Lib.hid HC0
  have HM : Hid (∀ X, Calls Try.prog 116 #[.agg #[.int .i64 x, .int .i64 y, .int .i64 z]] X (Bl false X)) := Lib.hid fun X => by
    have := ok_any x y z X
    rwa [show okB x y z = false from decide_eq_false hv] at this
  have HEnd : Hid (∀ u w', ML W (W.heap.size + 1) [] u w' → Mtx (lpZ x y z) W (.returned u) w') := Lib.hid fun u w' h => by
    have e : lpZ x y z = [] := by
      unfold lpZ
      rw [if_neg (by rw [show okB x y z = false from decide_eq_false hv]; decide)]
    rw [e]
    exact mtx_mk h.2.2.2 (Nat.le_trans (Nat.le_succ _) (Nat.le_refl _)) (Nat.le_refl _) h.1
  have HX0 := Lib.hid (mbox_two x y z W 27 (.cells #[] 34))
  have hol0 : Hid (ML W (W.heap.size + 1) [] (.slice (some ⟨W.heap.size + 1, 0, none⟩) 0 0) ((W.alloc (.cells #[.int .i64 x, .int .i64 y, .int .i64 z] 27)).alloc (.cells #[] 34))) := Lib.hid (by
    have := ml_new (W := W) (X := W.alloc (.cells #[.int .i64 x, .int .i64 y, .int .i64 z] 27)) (below_box W _) (by simp)
    simpa using this)
  clear hv HC0
  go_enter Try.func118, Try.ntmps118
  go_wp2_with fail
  refine (HC.out _).mono ?_
  rintro e w1 ⟨rfl, hb⟩
  have hol := Lib.hid (hol0.out.call hb)
  have hx := Lib.hid (HX0.out.call hb)
  clear hb hol0 HX0 HC
  go_wp2_with fail
  go_loopw [3, 5] (fun u3 u5 wr => u3 = .slice (some ⟨W.heap.size + 1, 0, none⟩) 0 0 ∧ u5 = .int .i64 0 ∧ ML W (W.heap.size + 1) [] u3 wr ∧ MBox W.heap.size x y z wr) (fun _ _ _ => 0)
  case atStart => exact ⟨rfl, rfl, hol.out, hx.out⟩
  case round =>
    clear hol hx
    obtain ⟨rfl, rfl, hol1, hx1⟩ := hrel
    have hol := Lib.hid hol1
    have hx := Lib.hid hx1
    clear hol1 hx1
    obtain ⟨c0, c1, c2⟩ := hx.out.1
    by_cases hp : 0 < v
    · have hd : decide (0 < v) = true := decide_eq_true hp
      go_wp2_with fail
      refine (HM.out _).mono ?_
      rintro e w1 ⟨rfl, hb⟩
      have hol1 := Lib.hid (hol.out.call hb)
      clear hb hol
      go_wp2_with fail
      go_ret
      exact HEnd.out _ _ hol1.out
    · have hd : decide (0 < v) = false := decide_eq_false hp
      go_wp2_with fail
      go_ret
      exact HEnd.out _ _ hol.out

theorem laplaceOf_any (x y z : Int) (W : World) :
    Calls Try.prog 118 #[.agg #[.int .i64 x, .int .i64 y, .int .i64 z]] W (Mtx (lpZ x y z) W) := by
  by_cases hv : OkM x y z
  · exact laplaceOf_good x y z W hv
  · exact laplaceOf_bad x y z W hv
end Go.Proofs.Ythgnhamokikhkaa.matR
