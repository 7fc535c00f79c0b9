/- The contracts of the program's functions on mazes from arrows: whether arrows are in order, where a number stands. -/
import Derived.Test.YtcoikcnijaniaaaPopO
import Derived.Test.YtcoikcnijaniaaaPopP
import Derived.Test.YtcoikcnijaniaaaPrgG
namespace Go.Proofs.Ytcoikcnijaniaaa.popI
open Go.ChangeShapes Go.WideShapes Go.ChangeAt Go.RowKit
open draw gridP gridC gridE bitP mazeP mazeC mazeM mazeR intsP reachP reachM reachN reachD intA intK listK rowsP wayP ersP ersO popP popO
set_option linter.unusedVariables false

/-! ### plain -/
theorem ao_no {x y : Int} {ls : List (List Int)} (h : ¬ Ao x y ls) : aoB x y ls = false := by
  rw [← Bool.not_eq_true, ao_iff]; exact h
def Rk (x y : Int) (ls : List (List Int)) (k : Nat) : Prop := ∀ j : Nat, j < k → (rwA ls j).length ≤ 60 ∧ ∀ d ∈ rwA ls j, nbZ x y j d ≠ -1
theorem rk_next {x y : Int} {ls : List (List Int)} {k : Nat} (h : Rk x y ls k) (h1 : (rwA ls k).length ≤ 60) (h2 : ∀ d ∈ rwA ls k, nbZ x y k d ≠ -1) : Rk x y ls (k + 1) := fun j hj => by
  rcases Nat.lt_or_ge j k with h' | h'
  · exact h j h'
  · obtain rfl : j = k := by omega
    exact ⟨h1, h2⟩
theorem take_next {P : Int → Prop} {l : List Int} {i : Nat} {d : Int} (hd : l[i]? = some d) (h : ∀ z ∈ l.take i, P z) (h1 : P d) : ∀ z ∈ l.take (i + 1), P z := fun z hz => by
  rw [List.take_add_one, hd] at hz
  rcases List.mem_append.1 hz with h' | h'
  · exact h z h'
  · have : z = d := by simpa using h'
    rw [this]; exact h1
theorem take_full {P : Int → Prop} {l : List Int} {i : Nat} (hi : l.length ≤ i) (h : ∀ z ∈ l.take i, P z) : ∀ z ∈ l, P z := by rwa [List.take_of_length_le hi] at h
theorem addr_zero (a : Addr) : a.add 0 = a := by
  obtain ⟨b, o, s⟩ := a
  cases s <;> simp [Addr.add]

set_option maxRecDepth 100000 in
set_option maxHeartbeats 2000000 in
theorem arrowsOk_any (x y : Int) (A : Option Addr) (n c : Nat) (ls : List (List Int)) (W : World) (hn : ls.length = n) (hm : n ≤ 1048576) (hl : ∀ l ∈ ls, l.length ≤ 1048576) (hi : MxIn W W.heap.size A ls) :
    Calls Try.prog 25 #[.agg #[.int .i64 x, .int .i64 y], .slice A n c] W (Bl (aoB x y ls) W) := by
  have HI := Lib.hid (fun X (hb : Below W.heap.size W X) => hi.below hb)
  have HB := Lib.hid (fun T => below_box W (.cells #[.int .i64 x, .int .i64 y] T))
  have HX := Lib.hid (fun T => box_new x y W T)
  have HK := @Lib.hid _ (fun w' v e b => @bl_mk v (aoB x y ls) W w' e b)
  have HNo := Lib.hid (fun h => @ao_no x y ls h)
  by_cases hk : OkZ x y
  · have HG : Hid (∀ X, Calls Try.prog 61 #[.agg #[.int .i64 x, .int .i64 y]] X (Bl true X)) := fun X => ok_yes x y X hk.1 hk.2.1 hk.2.2.1 hk.2.2.2
    have HC : Hid (∀ X, Calls Try.prog 62 #[.agg #[.int .i64 x, .int .i64 y]] X (Nm (x * y) X)) := fun X => cells_any x y X hk.1 hk.2.1 hk.2.2.1 hk.2.2.2
    have hN : x * y = (cN x y : Int) ∧ 1 ≤ cN x y ∧ cN x y ≤ 16 := by
      have := (mul_bd x y hk.1 hk.2.1 hk.2.2.1 hk.2.2.2).1
      unfold cN; omega
    rw [hN.1] at HC
    have HNb := Lib.hid (fun k d X => gridI.neighbor_any x y k d X)
    have Hn := Lib.hid hn
    have HLn := Lib.hid (fun k (hk : k < n) => (⟨by rw [hn]; exact hk, hl _ (List.mem_of_getElem? (ao_rows' (ls := ls) (show k < ls.length by omega))), ao_rows' (ls := ls) (show k < ls.length by omega)⟩ : k < ls.length ∧ (rwA ls k).length ≤ 1048576 ∧ ls[k]? = some (rwA ls k)))
    have HYes : Hid (n = cN x y → (rwA ls 0).length = 0 → Rk x y ls n → true = aoB x y ls) := Lib.hid fun h1 h2 h3 => (ao_iff.2 ⟨hk, by omega, h2, by rw [hn]; exact h3⟩).symm
    have HBad : Hid (∀ k : Nat, k < n → ¬ ((rwA ls k).length ≤ 60 ∧ ∀ d ∈ rwA ls k, nbZ x y k d ≠ -1) → false = aoB x y ls) := Lib.hid fun k h1 h2 => (HNo.out fun h => h2 (h.2.2.2 k (by omega))).symm
    have HLen : Hid (n ≠ cN x y → false = aoB x y ls) := Lib.hid fun h => (HNo.out fun h' => h (by have := h'.2.1; omega)).symm
    have HZr : Hid ((rwA ls 0).length ≠ 0 → false = aoB x y ls) := Lib.hid fun h => (HNo.out fun h' => h h'.2.2.1).symm
    clear hi hl hn hk HNo
    generalize hNN : cN x y = N at *
    obtain ⟨-, hN1, hN16⟩ := hN
    go_enter Try.func25, Try.ntmps25
    go_wp2_with fail
    refine (HG.out _).mono ?_
    rintro e w1 ⟨rfl, hb⟩
    have hb1 := Lib.hid (below_call (HB.out _) hb)
    have hx1 := Lib.hid ((HX.out _).call hb)
    clear hb HG HB HX
    obtain ⟨c0, c1⟩ := hx1.out.1
    go_wp2_with fail
    refine (HC.out _).mono ?_
    rintro e w2 ⟨rfl, hb⟩
    have hb2 := Lib.hid (below_call hb1.out hb)
    have hx2 := Lib.hid (hx1.out.call hb)
    clear hb hb1 hx1 HC c0 c1
    by_cases hnN : n = N
    · subst hnN
      have hne : ((n : Int) != (n : Int)) = false := by simp
      obtain ⟨q1, q2, q3⟩ := HLn.out 0 (by omega)
      obtain ⟨ad, rfl, hab, A1, c1, e1, r1⟩ := mx_cell (HI.out _ hb2.out) q3
      simp only [Int.natCast_zero, addr_zero] at e1
      by_cases hz : (rwA ls 0).length = 0
      · have Hz := Lib.hid hz
        rw [hz] at e1
        clear hz q2 q3 r1
        go_wp2_with fail
        clear e1 hne
        go_loopw [28] (fun u28 wr => ∃ k : Nat, k ≤ n ∧ u28 = .int .i64 k ∧ Rk x y ls k ∧ Below W.heap.size W wr ∧ Box W.heap.size x y wr) (fun u28 _ => n - (intOf u28).toNat)
        case atStart => exact ⟨0, Nat.zero_le _, rfl, fun j hj => absurd hj (by omega), hb2.out, hx2.out⟩
        case round =>
          clear hb2 hx2
          obtain ⟨k, hkn, rfl, hrk, hb0, hx0⟩ := hrel
          have hRk := Lib.hid hrk
          have hbl := Lib.hid hb0
          have hbx := Lib.hid hx0
          have hk0 : (0 : Int) ≤ (k : Int) := Int.natCast_nonneg _
          by_cases hk1 : k < n
          · have hk2 : (k : Int) < (n : Int) := by omega
            obtain ⟨q1, q2, q3⟩ := HLn.out k hk1
            obtain ⟨ad', had, -, A2, c2, e2, r2⟩ := mx_cell (HI.out _ hb0) q3
            cases had
            have HQ := Lib.hid r2
            have HBk := Lib.hid (HBad.out k hk1)
            have HNx := Lib.hid (fun h1 h2 => rk_next hRk.out h1 h2)
            have HNbk := Lib.hid (fun d X => HNb.out k d X)
            have HIr : Hid (∀ X, Below W.heap.size W X → IntsIn X W.heap.size A2 (rwA ls k)) := Lib.hid fun X hX => by
              have h1 := r2
              intro hne
              obtain ⟨a2, e, hlt, hc⟩ := h1 hne
              exact ⟨a2, e, hlt, fun j u hj => by
                have h2 := hc j u hj
                rw [← h2, hX.cell (by rw [block_of_add]; exact hlt), hb0.cell (by rw [block_of_add]; exact hlt)]⟩
            generalize hrw : rwA ls k = r at *
            clear q1 q3 HLn r2 hrk hb0 hx0
            by_cases h6 : 60 < r.length
            · have HE := Lib.hid (HBk.out fun h => by have := h.1; omega)
              have h6' : (60 : Int) < (r.length : Int) := by omega
              go_wp2_with fail
              go_ret
              exact HK.out _ _ HE.out hbl.out
            · have h6' : ¬ (60 : Int) < (r.length : Int) := by omega
              go_wp2_with fail
              clear e2
              go_loopw [38] (fun u38 wq => ∃ i : Nat, i ≤ r.length ∧ u38 = .int .i64 i ∧ (∀ d ∈ r.take i, nbZ x y k d ≠ -1) ∧ Below W.heap.size W wq ∧ Box W.heap.size x y wq) (fun u38 _ => r.length - (intOf u38).toNat)
              case atStart => exact ⟨0, Nat.zero_le _, rfl, by simp, hbl.out, hbx.out⟩
              case round =>
                clear hbl hbx
                obtain ⟨i, hir, rfl, hall, hb0, hx0⟩ := hrel
                have HAll := Lib.hid hall
                have hbl := Lib.hid hb0
                have hbx := Lib.hid hx0
                clear hall hx0
                obtain ⟨c0, c1⟩ := hbx.out.1
                have hi0 : (0 : Int) ≤ (i : Int) := Int.natCast_nonneg _
                by_cases hi1 : i < r.length
                · have hi2 : (i : Int) < (r.length : Int) := by omega
                  obtain ⟨d, hd⟩ : ∃ d, r[i]? = some d := ⟨r[i], List.getElem?_eq_getElem hi1⟩
                  have hmem := List.mem_of_getElem? hd
                  obtain ⟨ai, rfl, hai, e3⟩ := ints_cell (HIr.out _ hb0) hd
                  have HNd := Lib.hid (fun X => HNbk.out d X)
                  clear hb0
                  by_cases hnv : nbZ x y k d = -1
                  · have HE := Lib.hid (HBk.out fun h => absurd hnv (h.2 d hmem))
                    rw [hnv] at HNd
                    clear hd hmem
                    go_wp2_with fail
                    refine (HNd.out _).mono ?_
                    rintro e w3 ⟨rfl, hb⟩
                    have hb3 := Lib.hid (below_call hbl.out hb)
                    clear hb e3 c0 c1
                    go_wp2_with fail
                    go_ret
                    exact HK.out _ _ HE.out hb3.out
                  · have HN := Lib.hid (take_next (P := fun d => nbZ x y k d ≠ -1) hd HAll.out hnv)
                    have hnv' : (nbZ x y k d == -1) = false := by simpa using hnv
                    clear hd hmem hnv
                    generalize nbZ x y k d = nv at *
                    go_wp2_with fail
                    refine (HNd.out _).mono ?_
                    rintro e w3 ⟨rfl, hb⟩
                    have hb3 := Lib.hid (below_call hbl.out hb)
                    have hx3 := Lib.hid (hbx.out.call hb)
                    clear hb e3 c0 c1
                    go_wp2_with fail
                    go_roundw
                    case rel => exact ⟨i + 1, by omega, by go_num, HN.out, hb3.out, hx3.out⟩
                    case measure => simp [intOf]; omega
                · obtain rfl : i = r.length := by omega
                  have HN := Lib.hid (HNx.out (by omega) (take_full (Nat.le_refl _) HAll.out))
                  clear hb0
                  go_wp2_with fail
                  go_roundw
                  case rel => exact ⟨k + 1, by omega, by go_num, HN.out, hbl.out, hbx.out⟩
                  case measure => simp [intOf]; omega
          · obtain rfl : k = n := by omega
            have HE := Lib.hid (HYes.out (by first | trivial | rfl) Hz.out hRk.out)
            clear HLn
            go_wp2_with fail
            go_ret
            exact HK.out _ _ HE.out hbl.out
      · have HE := Lib.hid (HZr.out hz)
        have hz' : (0 : Int) < ((rwA ls 0).length : Int) := by omega
        clear hz q3 r1
        generalize (rwA ls 0).length = m at *
        go_wp2_with fail
        go_ret
        exact HK.out _ _ HE.out hb2.out
    · have HE := Lib.hid (HLen.out hnN)
      have hne : ((n : Int) != (N : Int)) = true := by rw [bne_iff_ne]; omega
      go_wp2_with fail
      go_ret
      exact HK.out _ _ HE.out hb2.out
  · have HG : Hid (∀ X, Calls Try.prog 61 #[.agg #[.int .i64 x, .int .i64 y]] X (Bl false X)) := fun X => ok_no x y X hk
    have HE := Lib.hid (HNo.out fun h => hk h.1)
    clear hi hl hn hk HNo
    go_enter Try.func25, Try.ntmps25
    go_wp2_with fail
    refine (HG.out _).mono ?_
    rintro e w1 ⟨rfl, hb⟩
    have hb1 := Lib.hid (below_call (HB.out _) hb)
    clear hb HG HB HX
    go_wp2_with fail
    go_ret
    exact HK.out _ _ HE.out.symm hb1.out

/-- Where a number stands in a list. -/
def ixZ (l : List Int) (u : Int) : Int := if u ∈ l then (ixN l u : Int) else -1
theorem ix_first : ∀ {l : List Int} {u : Int} {k : Nat}, l[k]? = some u → (∀ (j : Nat) (d : Int), j < k → l[j]? = some d → d ≠ u) → ixN l u = k
  | [], _, _, h, _ => by simp at h
  | a :: l, u, 0, h, _ => by
    obtain rfl : a = u := by simpa using h
    simp [ixN]
  | a :: l, u, k + 1, h, hlow => by
    have h0 : a ≠ u := hlow 0 a (by omega) rfl
    unfold ixN
    rw [if_neg h0, ix_first (k := k) (by simpa using h) fun j d hj hd => hlow (j + 1) d (by omega) (by simpa using hd)]
set_option maxRecDepth 100000 in
theorem index_any (A : Option Addr) (n c : Nat) (l : List Int) (u : Int) (W : World) (hn : l.length = n) (hm : n ≤ 1048576) (hi : IntsIn W W.heap.size A l) :
    Calls Try.prog 108 #[.slice A n c, .int .i64 u] W fun e w' => e = .returned (.int .i64 (ixZ l u)) ∧ W = w' := by
  have HY := Lib.hid hi
  have Hn := Lib.hid hn
  have HF : Hid (∀ k : Nat, l[k]? = some u → (∀ (j : Nat) (d : Int), j < k → l[j]? = some d → d ≠ u) → (k : Int) = ixZ l u) := Lib.hid fun k h h' => by
    unfold ixZ; rw [if_pos (List.mem_of_getElem? h), ix_first h h']
  have HN : Hid ((∀ (j : Nat) (d : Int), j < n → l[j]? = some d → d ≠ u) → (-1 : Int) = ixZ l u) := Lib.hid fun h => by
    unfold ixZ; rw [if_neg fun hm => by
      obtain ⟨j, hj⟩ := List.getElem?_of_mem hm
      have := (List.getElem?_eq_some_iff.1 hj).1
      exact h j u (by omega) hj rfl]
  generalize ixZ l u = z at *
  clear hi hn
  go_enter Try.func108, Try.ntmps108
  go_wp2_with fail
  go_loopw [8] (fun u8 wr => ∃ k : Nat, k ≤ n ∧ u8 = .int .i64 k ∧ (∀ (j : Nat) (d : Int), j < k → l[j]? = some d → d ≠ u) ∧ wr = W) (fun u8 _ => n - (intOf u8).toNat)
  case atStart => exact ⟨0, Nat.zero_le _, rfl, fun j d hj => absurd hj (by omega), rfl⟩
  case round =>
    obtain ⟨k, hk, rfl, hin, rfl⟩ := hrel
    have HIn := Lib.hid hin
    clear hin
    by_cases hkn : k < n
    · obtain ⟨v, hv⟩ : ∃ v, l[k]? = some v := ⟨l[k]'(by have := Hn.out; omega), List.getElem?_eq_getElem (by have := Hn.out; omega)⟩
      obtain ⟨ad, rfl, hab, hcell⟩ := ints_cell HY.out hv
      have hk0 : (0 : Int) ≤ (k : Int) := Int.natCast_nonneg _
      have hk1 : (k : Int) < (n : Int) := by omega
      by_cases hd : u = v
      · have hc : (u == v) = true := by simpa using hd
        have HE := Lib.hid (HF.out k (by rw [hd]; exact hv) HIn.out)
        clear hd hv HF
        go_wp2_with fail
        go_ret
        exact ⟨by rw [HE.out]; rfl, rfl⟩
      · have hc : (u == v) = false := by simpa using hd
        have HNx : Hid (∀ (j : Nat) (d : Int), j < k + 1 → l[j]? = some d → d ≠ u) := Lib.hid fun j d hj hl => by
          rcases Nat.lt_or_ge j k with h | h
          · exact HIn.out j d h hl
          · obtain rfl : j = k := by omega
            rw [hv] at hl; cases hl; exact fun e => hd e.symm
        clear hd hv HF
        go_wp2_with fail
        go_roundw
        case rel => exact ⟨k + 1, by omega, by go_num, HNx.out, by trivial⟩
        case measure => simp [intOf]; omega
    · obtain rfl : k = n := by omega
      have HE := Lib.hid (HN.out HIn.out)
      clear HF
      go_wp2_with fail
      go_ret
      exact ⟨by rw [HE.out]; rfl, rfl⟩
end Go.Proofs.Ytcoikcnijaniaaa.popI
