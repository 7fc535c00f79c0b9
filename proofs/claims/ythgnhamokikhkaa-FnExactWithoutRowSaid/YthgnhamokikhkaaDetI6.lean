/- The contract of the program's leaving out of a row and a column. -/
import Derived.Test.YthgnhamokikhkaaDetI5
namespace Go.Proofs.Ythgnhamokikhkaa.detI
open Go.ChangeShapes Go.WideShapes Go.ChangeAt Go.RowKit
open draw gridC mazeC intsP reachD intA intK listK rowsP rowsL matP
set_option linter.unusedVariables false

theorem icells_erase (l : List Int) (k : Nat) : (icells l).eraseIdx k = icells (l.eraseIdx k) := by
  unfold icells
  apply List.ext_getElem?
  intro j
  rw [List.getElem?_eraseIdx, List.getElem?_map, List.getElem?_map, List.getElem?_map, List.getElem?_eraseIdx]
  split <;> rfl
/-- A row is left out. -/
theorem mx_del {X : World} {b t g n cg k : Nat} {ls : List (List Int)} (h : MxOw X b t (.slice (some ⟨g, 0, none⟩) n cg) ls) (hk : k < n) :
    ∃ xs : List Value, X.ownsRow b 34 1 (.slice (some ⟨g, 0, none⟩) n cg) n xs ∧ (∀ u ∈ xs, u.oneCell' = true) ∧ n ≤ cg ∧ cg ≤ maxLen ∧
      ∀ X', X'.ownsRow b 34 1 (.slice (some ⟨g, 0, none⟩) (n - 1) cg) (n - 1) (xs.eraseIdx k) → X.grownBy X' (some g) → MxOw X' b t (.slice (some ⟨g, 0, none⟩) (n - 1) cg) (ls.eraseIdx k) ∧ KeptO b t X X' := by
  have hn := mx_num h
  subst hn
  obtain ⟨cs, h1, h2, h3, h4⟩ := h
  have hcl : cs.length = ls.length := by have := h1.1; omega
  refine ⟨cs, h1, fun u hu => ?_, (own_cap h1).1, (own_cap h1).2, fun X' ho hg => ⟨⟨cs.eraseIdx k, ?_, h2, fun i l hl => ?_, fun i j c d q hc hd hij hq => ?_⟩, (kept_refl b t X).grown hg (fun q e => by cases e; exact ⟨(h1.lt g rfl).1, h2 g rfl⟩)⟩⟩
  · obtain ⟨j, hj, rfl⟩ := List.mem_iff_getElem.1 hu
    obtain ⟨c, e1, e2, -⟩ := h3 j _ (List.getElem?_eq_getElem (by omega))
    obtain ⟨Ai, ci, rfl⟩ := intsP.own_form e2
    rw [List.getElem?_eq_getElem hj] at e1
    rw [Option.some.inj e1]; rfl
  · rw [List.length_eraseIdx, if_pos hk]; exact ho
  · rw [List.getElem?_eraseIdx] at hl
    have key : ∀ j, ls[j]? = some l → ∃ c, cs[j]? = some c ∧ X'.ownsRow b 3 1 c l.length (icells l) ∧ ∀ q, c.ownBlock = some q → q < t := fun j hj => by
      obtain ⟨c, e1, e2, e3⟩ := h3 j l hj
      exact ⟨c, e1, e2.kept hg (splP.own_ne e2 h1 (by decide)), e3⟩
    rw [List.getElem?_eraseIdx]
    split at hl
    · rename_i hlt; rw [if_pos hlt]; exact key _ hl
    · rename_i hlt; rw [if_neg hlt]; exact key _ hl
  · rw [List.getElem?_eraseIdx] at hc hd
    split at hc <;> split at hd <;> exact h4 _ _ c d q hc hd (by omega) hq
/-- A number of a row is left out. -/
theorem mx_row_del {X : World} {b t g m cg i n k : Nat} {ls : List (List Int)} {l : List Int} (h : MxOw X b t (.slice (some ⟨g, 0, none⟩) m cg) ls) (hl : ls[i]? = some l) (hn : l.length = n) (hk : k < n) :
    ∃ q cq, X.cell? ⟨g, i, none⟩ = some (.slice (some ⟨q, 0, none⟩) n cq) ∧ X.ownsRow b 3 1 (.slice (some ⟨q, 0, none⟩) n cq) n (icells l) ∧ n ≤ cq ∧ cq ≤ maxLen ∧
      ∀ X', X'.ownsRow b 3 1 (.slice (some ⟨q, 0, none⟩) (n - 1) cq) (n - 1) ((icells l).eraseIdx k) → X.grownBy X' (some q) →
        (∃ old, X'.cell? ⟨g, i, none⟩ = some old) ∧ X'.frozen? ⟨g, i, none⟩ = false ∧ MxOw (X'.setCell ⟨g, i, none⟩ (.slice (some ⟨q, 0, none⟩) (n - 1) cq)) b t (.slice (some ⟨g, 0, none⟩) m cg) (ls.set i (l.eraseIdx k)) ∧
          ∀ Y, KeptO b t Y X → KeptO b t Y (X'.setCell ⟨g, i, none⟩ (.slice (some ⟨q, 0, none⟩) (n - 1) cq)) := by
  have hm := mx_num h
  subst hm
  have hil := (List.getElem?_eq_some_iff.1 hl).1
  obtain ⟨cs, h1, h2, h3, h4⟩ := h
  have hcl : cs.length = ls.length := by have := h1.1; omega
  obtain ⟨c, e1, e2, e3⟩ := h3 i l hl
  rw [hn] at e2
  obtain ⟨q, cq, rfl, hq1, hq2⟩ := own_some e2 (by omega)
  have hqt : q < t := e3 q rfl
  have hg1 : b ≤ g ∧ g < t := ⟨(h1.lt g rfl).1, h2 g rfl⟩
  refine ⟨q, cq, by rw [h1.cellAt i (by omega), e1], e2, (own_cap e2).1, (own_cap e2).2, fun X' ho hg => ?_⟩
  have k1 := h1.kept hg (splP.own_ne h1 e2 (by decide))
  obtain ⟨s1, s2⟩ := k1.stored i (.slice (some ⟨q, 0, none⟩) (n - 1) cq)
  refine ⟨⟨_, (k1.cellAt i (by omega)).trans e1⟩, k1.frozenAt i, ⟨cs.set i (.slice (some ⟨q, 0, none⟩) (n - 1) cq), by rw [List.length_set]; exact s1, h2, fun j m hj => ?_, fun j r c d p hc hd hjr hp => ?_⟩, fun Y hY => (hY.grown hg (fun p e => by cases e; exact ⟨hq1, hqt⟩)).grown s2 (fun p e => by cases e; exact hg1)⟩
  · by_cases hji : j = i
    · subst hji
      rw [List.getElem?_set_self hil] at hj
      obtain rfl : l.eraseIdx k = m := Option.some.inj hj
      rw [icells_erase] at ho
      have hle : (l.eraseIdx k).length = n - 1 := by rw [List.length_eraseIdx, if_pos (by omega)]; omega
      refine ⟨_, List.getElem?_set_self (by omega), ?_, fun p e => by cases e; exact hqt⟩
      rw [hle]
      exact ho.kept s2 (splP.own_ne ho k1 (by decide))
    · rw [List.getElem?_set_ne (fun e => hji e.symm)] at hj
      obtain ⟨d, d1, d2, d3⟩ := h3 j m hj
      refine ⟨d, by rw [List.getElem?_set_ne (fun e => hji e.symm)]; exact d1, ?_, d3⟩
      have d2' := d2.kept hg (by
        cases hd : d.ownBlock with
        | none => exact .inl rfl
        | some p =>
          refine .inr fun e => ?_
          exact h4 j i d _ p d1 e1 hji hd (by show some q = some p; exact e.symm))
      exact d2'.kept s2 (splP.own_ne d2' k1 (by decide))
  · have hold : ∀ {j : Nat} {c : Value}, (cs.set i (.slice (some ⟨q, 0, none⟩) (n - 1) cq))[j]? = some c → ∃ c' : Value, cs[j]? = some c' ∧ c'.ownBlock = c.ownBlock := fun {j c} hc => by
      by_cases hji : j = i
      · subst hji
        rw [List.getElem?_set_self (by omega)] at hc
        obtain rfl := Option.some.inj hc
        exact ⟨_, e1, rfl⟩
      · rw [List.getElem?_set_ne (fun e => hji e.symm)] at hc
        exact ⟨c, hc, rfl⟩
    obtain ⟨c', x1, x2⟩ := hold hc
    obtain ⟨d', y1, y2⟩ := hold hd
    rw [← y2]
    exact h4 j r c' d' p x1 y1 hjr (by rw [x2]; exact hp)

/-- The first i rows have lost the number at k. -/
def mid (ms : List (List Int)) (k i : Nat) : List (List Int) := (ms.take i).map (fun l => l.eraseIdx k) ++ ms.drop i
theorem mid_get {ms : List (List Int)} {k i : Nat} (hi : i ≤ ms.length) (j : Nat) : (mid ms k i)[j]? = if j < i then (ms[j]?).map (fun l => l.eraseIdx k) else ms[j]? := by
  have hl : ((ms.take i).map (fun l : List Int => l.eraseIdx k)).length = i := by rw [List.length_map, List.length_take]; omega
  unfold mid
  split
  · rename_i h
    rw [List.getElem?_append_left (by omega), List.getElem?_map, List.getElem?_take_of_lt h]
  · rename_i h
    rw [List.getElem?_append_right (by omega), hl, List.getElem?_drop, show i + (j - i) = j by omega]
theorem mid_zero (ms : List (List Int)) (k : Nat) : mid ms k 0 = ms := by simp [mid]
theorem mid_all (ms : List (List Int)) (k : Nat) : mid ms k ms.length = ms.map (fun l => l.eraseIdx k) := by simp [mid]
theorem mid_len {ms : List (List Int)} {k i : Nat} (hi : i ≤ ms.length) : (mid ms k i).length = ms.length := by
  unfold mid; rw [List.length_append, List.length_map, List.length_take, List.length_drop]; omega
theorem mid_next {ms : List (List Int)} {k i : Nat} {l : List Int} (hl : ms[i]? = some l) : mid ms k (i + 1) = (mid ms k i).set i (l.eraseIdx k) := by
  have hi := (List.getElem?_eq_some_iff.1 hl).1
  apply List.ext_getElem?
  intro j
  rw [mid_get (by omega)]
  by_cases hj : j = i
  · subst hj
    rw [if_pos (by omega), hl, List.getElem?_set_self (by rw [mid_len (by omega)]; exact hi)]; rfl
  · rw [List.getElem?_set_ne (fun e => hj e.symm), mid_get (by omega)]
    by_cases h : j < i
    · rw [if_pos (by omega), if_pos h]
    · rw [if_neg (by omega), if_neg h]

/-- The rows at work, beside what was there. -/
def WS (W : World) (b t : Nat) (v : Value) (ms : List (List Int)) (X : World) : Prop := MxOw X b t v ms ∧ Below W.heap.size W X ∧ W.heap.size ≤ b ∧ t ≤ X.heap.size
theorem WS.kept {W X X' : World} {b t : Nat} {v v' : Value} {ms ms' : List (List Int)} (h : WS W b t v ms X) (hm : MxOw X' b t v' ms') (hk : KeptO b t X X') : WS W b t v' ms' X' :=
  ⟨hm, hk.below h.2.1 h.2.2.1 h.2.1.size, h.2.2.1, Nat.le_trans h.2.2.2 hk.2.2.2.1⟩

set_option maxRecDepth 100000 in
set_option maxHeartbeats 4000000 in
theorem withoutRowOf_any (W X0 : World) (b t g n c1 κ : Nat) (ls : List (List Int)) (hs0 : WS W b t (.slice (some ⟨g, 0, none⟩) n c1) ls X0) (hr : ∀ l ∈ ls, l.length = n) (h16 : n ≤ 16) (hκ : κ < n) :
    Calls Try.prog 96 #[.slice (some ⟨g, 0, none⟩) n c1, .int .i64 κ] X0
      (fun e X => e = .returned (.slice (some ⟨g, 0, none⟩) (n - 1) c1) ∧ WS W b t (.slice (some ⟨g, 0, none⟩) (n - 1) c1) ((ls.eraseIdx κ).map (fun l => l.eraseIdx κ)) X) := by
  have hκ0 : (0 : Int) ≤ (κ : Int) := Int.natCast_nonneg _
  have hn := mx_num hs0.1
  have HRow : Hid (∀ l ∈ ls.eraseIdx κ, l.length = n) := Lib.hid fun l hl => hr l (List.mem_of_mem_eraseIdx hl)
  have HLen : Hid ((ls.eraseIdx κ).length = n - 1) := Lib.hid (by rw [List.length_eraseIdx, if_pos (by omega)]; omega)
  obtain ⟨xs, x1, x2, x3, x4, x5⟩ := mx_del hs0.1 hκ
  have HD := Lib.hid (delRows_any b g n c1 κ xs X0 x1 x2 hκ (by omega) x3 x4)
  have HX := Lib.hid (fun w2 ho hg => hs0.kept (x5 w2 ho hg).1 (x5 w2 ho hg).2)
  clear x1 x2 x3 x4 x5 hs0 hn hr
  go_enter Try.func96, Try.ntmps96
  go_wp2_with fail
  refine HD.out.mono ?_
  rintro e w2 ⟨rfl, ho, hg⟩
  have hs := Lib.hid (HX.out w2 ho hg)
  clear ho hg HX HD
  generalize hms : ls.eraseIdx κ = ms at *
  have HM := Lib.hid hms
  clear hms
  have hnz : (((n - 1 : Nat) : Int)) = (n : Int) - 1 := by omega
  go_wp2_with fail
  go_loopw [14] (fun u14 wr => ∃ i : Nat, i ≤ n - 1 ∧ u14 = .int .i64 i ∧ WS W b t (.slice (some ⟨g, 0, none⟩) (n - 1) c1) (mid ms κ i) wr) (fun u14 _ => n - (intOf u14).toNat)
  case atStart => exact ⟨0, Nat.zero_le _, rfl, by rw [mid_zero]; exact hs.out⟩
  case round =>
    clear hs
    obtain ⟨i, hi, rfl, hs0⟩ := hrel
    have hs := Lib.hid hs0
    clear hs0
    have hi0 : (0 : Int) ≤ (i : Int) := Int.natCast_nonneg _
    by_cases hin : i < n - 1
    · have hi1 : (i : Int) < ((n - 1 : Nat) : Int) := by omega
      have hdi : decide ((i : Int) < ((n - 1 : Nat) : Int)) = true := decide_eq_true hi1
      obtain ⟨l, hl⟩ : ∃ l, ms[i]? = some l := ⟨ms[i]'(by have := HLen.out; omega), List.getElem?_eq_getElem (by have := HLen.out; omega)⟩
      have hll := HRow.out l (List.mem_of_getElem? hl)
      have hl2 : (mid ms κ i)[i]? = some l := by rw [mid_get (by have := HLen.out; omega), if_neg (by omega)]; exact hl
      obtain ⟨q, cq, e1, e2, e3, e4, e5⟩ := mx_row_del hs.out.1 hl2 hll hκ
      have HD := Lib.hid (delInts_any b q n cq κ (icells l) wr e2 (oneCellI _) hκ (by omega) e3 e4)
      have HX := Lib.hid e5
      have HNx := Lib.hid (fun X hm hk => hs.out.kept (X' := X) (ms' := mid ms κ (i + 1)) (v' := .slice (some ⟨g, 0, none⟩) (n - 1) c1) hm hk)
      have HMid := Lib.hid (mid_next (k := κ) hl)
      clear e2 e5 hl hl2 hll
      go_wp2_with fail
      refine HD.out.mono ?_
      rintro e w3 ⟨rfl, ho, hg⟩
      obtain ⟨⟨old, hcell⟩, hfz, hmx, hkp⟩ := HX.out w3 ho hg
      have hnx : Hid (WS W b t (.slice (some ⟨g, 0, none⟩) (n - 1) c1) (mid ms κ (i + 1)) (w3.setCell ⟨g, i, none⟩ (.slice (some ⟨q, 0, none⟩) (n - 1) cq))) := Lib.hid (HNx.out _ (by rw [HMid.out]; exact hmx) (hkp _ (kept_refl _ _ _)))
      clear ho hg hmx hkp HX HNx e1
      go_wp2_with fail
      go_roundw
      case rel => exact ⟨i + 1, by omega, by go_num, hnx.out⟩
      case measure => simp [intOf]; omega
    · obtain rfl : i = n - 1 := by omega
      have hdi : decide (((n - 1 : Nat) : Int) < ((n - 1 : Nat) : Int)) = false := by simp
      have hfin := hs.out
      rw [← HLen.out, mid_all, HLen.out] at hfin
      have HF := Lib.hid hfin
      clear hfin
      go_wp2_with fail
      go_ret
      refine ⟨rfl, ?_⟩
      rw [HM.out]
      exact HF.out

set_option maxRecDepth 100000 in
set_option maxHeartbeats 4000000 in
theorem withoutRowI_any (A : Option Addr) (n c : Nat) (ls : List (List Int)) (k : Int) (W : World) (hn : ls.length = n) (hm : n ≤ 1048576) (hl : ∀ l ∈ ls, l.length ≤ 1048576) (hi : MxIn W W.heap.size A ls) :
    Calls Try.prog 36 #[.slice A n c, .int .i64 k] W (Mtx (woL ls k) W) := by
  have HQ := Lib.hid (squareOkI_any A n c ls W hn hm hl hi)
  have HNil : Hid (woL ls k = [] → ∀ X, Below W.heap.size W X → Mtx (woL ls k) W (.returned (.slice none 0 0)) X) := Lib.hid fun e X hb => by
    have h := ml_nil hb (Nat.le_refl _) hb.size
    rw [e]; exact mtx_mk h.2.2.2 h.2.1 (Nat.le_refl _) h.1
  by_cases hq : sqB ls = true
  · obtain ⟨q1, q2⟩ := sq_len hq
    rw [hq] at HQ
    by_cases hk0 : k < 0
    · have hd : decide (k < 0) = true := decide_eq_true hk0
      have HE := Lib.hid (HNil.out (by unfold woL; rw [if_neg (by omega)]))
      clear HNil hn hm hl hi q1 q2 hq
      go_enter Try.func36, Try.ntmps36
      go_wp2_with fail
      refine HQ.out.mono ?_
      rintro e w0 ⟨rfl, hb⟩
      have hb0 := Lib.hid hb
      clear hb HQ
      go_wp2_with fail
      go_ret
      exact HE.out _ hb0.out
    · have hd : decide (k < 0) = false := decide_eq_false hk0
      by_cases hkn : (n : Int) ≤ k
      · have hd2 : decide ((n : Int) ≤ k) = true := decide_eq_true hkn
        have HE := Lib.hid (HNil.out (by unfold woL; rw [if_neg (by omega)]))
        clear HNil hn hm hl hi q1 q2 hq
        go_enter Try.func36, Try.ntmps36
        go_wp2_with fail
        refine HQ.out.mono ?_
        rintro e w0 ⟨rfl, hb⟩
        have hb0 := Lib.hid hb
        clear hb HQ
        go_wp2_with fail
        go_ret
        exact HE.out _ hb0.out
      · obtain ⟨κ, rfl⟩ : ∃ κ : Nat, k = (κ : Int) := ⟨k.toNat, by omega⟩
        have hd2 : decide ((n : Int) ≤ (κ : Int)) = false := decide_eq_false hkn
        have hκ : κ < n := by omega
        have hκ0 : (0 : Int) ≤ (κ : Int) := Int.natCast_nonneg _
        have h16 : n ≤ 16 := by omega
        have HCo := Lib.hid (fun X (h : Below W.heap.size W X) => copyRows_any A n c ls X hn.symm hm hl ((hi.below h).more h.size))
        have HEnd : Hid (∀ b t v X, WS W b t v ((ls.eraseIdx κ).map (fun l => l.eraseIdx κ)) X → Mtx (woL ls κ) W (.returned v) X) := Lib.hid fun b t v X h => by
          have e : woL ls κ = (ls.eraseIdx κ).map (fun l => l.eraseIdx κ) := by
            unfold woL
            rw [if_pos ⟨hq, by omega, by omega⟩, Int.toNat_natCast]
          rw [e]
          exact mtx_mk h.1 h.2.2.1 h.2.2.2 h.2.1
        have HR : Hid (∀ l ∈ ls, l.length = n) := Lib.hid fun l hl => by rw [(q2 l hl).1, hn]
        have Hn := Lib.hid hn
        clear HNil hm hl hi q1 q2 hq hk0 hkn
        go_enter Try.func36, Try.ntmps36
        go_wp2_with fail
        refine HQ.out.mono ?_
        rintro e w0 ⟨rfl, hb⟩
        have hb0 := Lib.hid hb
        clear hb HQ
        go_wp2_with fail
        refine (HCo.out _ hb0.out).mono ?_
        rintro e w1 ⟨v, rfl, ho, hb⟩
        obtain ⟨A1, c1, rfl⟩ := ho.form
        have hs0 : Hid (WS W w0.heap.size w1.heap.size (.slice A1 n c1) ls w1) := Lib.hid ⟨by rw [hn] at ho; exact ho, below_call hb0.out hb, hb0.out.size, Nat.le_refl _⟩
        obtain ⟨g, rfl⟩ : ∃ g, A1 = some ⟨g, 0, none⟩ := by
          obtain ⟨-, g, e, -⟩ := hs0.out.1.row (List.getElem?_eq_getElem (show 0 < ls.length by omega))
          exact ⟨g, e⟩
        have HWo := Lib.hid (withoutRowOf_any W w1 w0.heap.size w1.heap.size g n c1 κ ls hs0.out HR.out h16 hκ)
        rw [hn]
        clear ho hb hb0 HCo hn hs0
        go_wp2_with fail
        refine HWo.out.mono ?_
        rintro e w2 ⟨rfl, hs⟩
        have HF := Lib.hid (HEnd.out _ _ _ _ hs)
        clear hs
        go_wp2_with fail
        go_ret
        exact HF.out
  · rw [show sqB ls = false by simpa using hq] at HQ
    have HE := Lib.hid (HNil.out (by unfold woL; rw [if_neg (fun h => hq h.1)]))
    clear HNil hn hm hl hi hq
    go_enter Try.func36, Try.ntmps36
    go_wp2_with fail
    refine HQ.out.mono ?_
    rintro e w0 ⟨rfl, hb⟩
    have hb0 := Lib.hid hb
    clear hb HQ
    go_wp2_with fail
    go_ret
    exact HE.out _ hb0.out
end Go.Proofs.Ythgnhamokikhkaa.detI
