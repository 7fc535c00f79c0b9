/- Rows exchanged in memory; the contract of the program's adding of a row to another one. -/
import Derived.Test.YthgnhamokikhkaaEucP
import Derived.Test.YthgnhamokikhkaaDetI1
import Derived.Test.YthgnhamokikhkaaDetI2
namespace Go.Proofs.Ythgnhamokikhkaa.detI
open Go.ChangeShapes Go.WideShapes Go.ChangeAt Go.RowKit
open draw gridC mazeC intsP reachD intA intK listK rowsP matP eucP
set_option linter.unusedVariables false

theorem swap_at {α : Type} {xs : List α} {i k : Nat} {a c : α} (hi : xs[i]? = some a) (hk : xs[k]? = some c) (r : Nat) : ((xs.set i c).set k a)[r]? = xs[if r = k then i else if r = i then k else r]? := by
  have h1 := (List.getElem?_eq_some_iff.1 hi).1
  have h2 := (List.getElem?_eq_some_iff.1 hk).1
  by_cases e : r = k
  · rw [if_pos e, e, List.getElem?_set_self (by simpa using h2), hi]
  · rw [if_neg e, List.getElem?_set_ne (fun h => e h.symm)]
    by_cases e2 : r = i
    · rw [if_pos e2, e2, List.getElem?_set_self h1, hk]
    · rw [if_neg e2, List.getElem?_set_ne (fun h => e2 h.symm)]
/-- Two rows change places. -/
theorem MxOw.swap {X : World} {b t g n cg i k : Nat} {ls : List (List Int)} {li lk : List Int} {ci ck : Value} (h : MxOw X b t (.slice (some ⟨g, 0, none⟩) n cg) ls) (hi : ls[i]? = some li) (hk : ls[k]? = some lk) (ei : X.cell? ⟨g, i, none⟩ = some ci) (ek : X.cell? ⟨g, k, none⟩ = some ck) :
    MxOw ((X.setCell ⟨g, i, none⟩ ck).setCell ⟨g, k, none⟩ ci) b t (.slice (some ⟨g, 0, none⟩) n cg) ((ls.set i lk).set k li) ∧ ∀ Y, KeptO b t Y X → KeptO b t Y ((X.setCell ⟨g, i, none⟩ ck).setCell ⟨g, k, none⟩ ci) := by
  have hn := mx_num h
  subst hn
  have hil := (List.getElem?_eq_some_iff.1 hi).1
  have hkl := (List.getElem?_eq_some_iff.1 hk).1
  obtain ⟨cs, h1, h2, h3, h4⟩ := h
  have di : cs[i]? = some ci := by rw [← ei, h1.cellAt i (by omega)]
  have dk : cs[k]? = some ck := by rw [← ek, h1.cellAt k (by omega)]
  obtain ⟨s1, s2⟩ := h1.stored i ck
  obtain ⟨u1, u2⟩ := s1.stored k ci
  have hgb : b ≤ g ∧ g < t := ⟨(h1.lt g rfl).1, h2 g rfl⟩
  refine ⟨⟨(cs.set i ck).set k ci, by simpa using u1, h2, fun r m hm => ?_, fun r j c d q hc hd hrj hq => ?_⟩, fun Y hY => (hY.grown s2 (fun q e => by cases e; exact hgb)).grown u2 (fun q e => by cases e; exact hgb)⟩
  · rw [swap_at hi hk] at hm
    obtain ⟨c, e1, e2, e3⟩ := h3 _ m hm
    have hne := splP.own_ne e2 h1 (by decide)
    exact ⟨c, by rw [swap_at di dk]; exact e1, (e2.kept s2 hne).kept u2 hne, e3⟩
  · rw [swap_at di dk] at hc hd
    refine h4 _ _ c d q hc hd ?_ hq
    repeat (first | omega | split)
theorem KeptO.dr {b t : Nat} {w w' : World} (h : KeptO b t w w') : KeptO b t w w'.drew := h

theorem set_same {α : Type} {xs : List α} {i : Nat} {a : α} (h : xs[i]? = some a) : xs.set i a = xs := by
  apply List.ext_getElem?
  intro j
  by_cases e : j = i
  · rw [e, List.getElem?_set_self (List.getElem?_eq_some_iff.1 h).1, h]
  · rw [List.getElem?_set_ne (fun h => e h.symm)]
/-- While a row is added to another one. -/
def AS (W : World) (b t g cg n R : Nat) (ms : List (List Int)) (i : Nat) (l : List Int) (X : World) : Prop :=
  MxOw X b t (.slice (some ⟨g, 0, none⟩) n cg) (ms.set i l) ∧ KeptO b t W X ∧ ∀ j, X.cell? ⟨g, j, none⟩ = W.cell? ⟨g, j, none⟩
theorem AS.dr {W X : World} {b t g cg n R : Nat} {ms : List (List Int)} {i : Nat} {l : List Int} (h : AS W b t g cg n R ms i l X) : AS W b t g cg n R ms i l X.drew :=
  ⟨h.1.call ⟨rfl, rfl, rfl, Nat.le_refl _, fun _ _ => rfl⟩, h.2.1, h.2.2⟩

set_option maxRecDepth 100000 in
set_option maxHeartbeats 4000000 in
theorem addRow_any (b t g cg n R : Nat) (ms : List (List Int)) (i k : Nat) (z : Int) (li lk : List Int) (W : World) (hO : MxOw W b t (.slice (some ⟨g, 0, none⟩) n cg) ms)
    (hR : W.cell? ⟨R, 0, none⟩ = some (.slice (some ⟨g, 0, none⟩) n cg)) (hRo : R < b ∨ t ≤ R) (hRl : R < W.heap.size) (hn : n ≤ 16) (hi : ms[i]? = some li) (hk : ms[k]? = some lk) (hne : i ≠ k) (l1 : li.length = n) (l2 : lk.length = n) :
    Calls Try.prog 134 #[.int .i64 i, .int .i64 k, .int .i64 z, .pointer (some ⟨R, 0, none⟩)] W
      (fun e w' => e = .returned (.tuple #[]) ∧ MxOw w' b t (.slice (some ⟨g, 0, none⟩) n cg) (ms.set i (adL li lk z)) ∧ KeptO b t W w' ∧ ∀ j, w'.cell? ⟨g, j, none⟩ = W.cell? ⟨g, j, none⟩) := by
  have hnl := mx_num hO
  have hil := (List.getElem?_eq_some_iff.1 hi).1
  have hkl := (List.getElem?_eq_some_iff.1 hk).1
  have HS0 : Hid (AS W b t g cg n R ms i (adC li lk z 0) W) := Lib.hid ⟨by rw [adc_zero, set_same hi]; exact hO, kept_refl b t W, fun _ => rfl⟩
  have HBox : Hid (∀ X c, AS W b t g cg n R ms i (adC li lk z c) X → X.cell? ⟨R, 0, none⟩ = some (.slice (some ⟨g, 0, none⟩) n cg)) := Lib.hid fun X c h => by
    have e : X.heap[R]? = W.heap[R]? := h.2.1.2.2.2.2 R hRl hRo
    rw [World.cell?_of_block (a := ⟨R, 0, none⟩) (w := W) e]; exact hR
  have HCell : Hid (∀ X c, AS W b t g cg n R ms i (adC li lk z c) X → c < n → ∃ q1 c1 q2 c2 x y, X.cell? ⟨g, i, none⟩ = some (.slice (some ⟨q1, 0, none⟩) n c1) ∧ X.cell? ⟨g, k, none⟩ = some (.slice (some ⟨q2, 0, none⟩) n c2) ∧ X.cell? ⟨q1, c, none⟩ = some (.int .i64 x) ∧ X.frozen? ⟨q1, c, none⟩ = false ∧ X.cell? ⟨q2, c, none⟩ = some (.int .i64 y) ∧
      AS W b t g cg n R ms i (adC li lk z (c + 1)) (X.setCell ⟨q1, c, none⟩ (.int .i64 (wrap64 (x + wrap64 (z * y)))))) := Lib.hid fun X c h hc => by
    have hlen : li.length = lk.length := by omega
    have hx := List.getElem?_eq_getElem (show c < li.length by omega)
    have hy := List.getElem?_eq_getElem (show c < lk.length by omega)
    have g1 : (ms.set i (adC li lk z c))[i]? = some (adC li lk z c) := List.getElem?_set_self hil
    have g2 : (ms.set i (adC li lk z c))[k]? = some lk := by rw [List.getElem?_set_ne hne]; exact hk
    have la : (adC li lk z c).length = n := by rw [adc_len hlen]; exact l1
    obtain ⟨-, ga, ea, -, -, -, A1, c1, e1, o1, -⟩ := h.1.row g1
    obtain ⟨-, gb, eb, -, -, -, A2, c2, e2, o2, -⟩ := h.1.row g2
    cases ea; cases eb
    rw [la] at e1 o1
    rw [l2] at e2 o2
    obtain ⟨q1, c1', r1, -, -⟩ := own_some o1 (by omega)
    obtain ⟨q2, c2', r2, -, -⟩ := own_some o2 (by omega)
    cases r1; cases r2
    refine ⟨q1, c1, q2, c2, li[c]'(by omega), lk[c]'(by omega), e1, e2, own_cellI o1 (adc_at hlen hx), o1.frozenAt c, own_cellI o2 hy, ?_⟩
    have hra := row_at h.1 (by simpa using hil) e1
    have hp := h.1.put g1 (j := c) (g := q1) (ci := c1) (by rw [la]; simpa [hnl] using hra) (wrap64 (li[c]'(by omega) + wrap64 (z * lk[c]'(by omega))))
    rw [← adc_next hlen hx hy, List.set_set] at hp
    have hgq : q1 ≠ g := by
      obtain ⟨cs, h1, -⟩ := h.1
      rcases splP.own_ne o1 h1 (by decide) with h | h
      · cases h
      · exact fun e => h (by rw [e]; rfl)
    refine ⟨hp.1, h.2.1.grown hp.2.1 (fun q e => by cases e; exact ⟨hp.2.2.1, hp.2.2.2⟩), fun j => ?_⟩
    rw [← h.2.2 j]
    have hgl : g < X.heap.size := by
      obtain ⟨cs, h1, -⟩ := h.1
      exact (h1.lt g rfl).2
    exact World.cell?_of_block (a := ⟨g, j, none⟩) (hp.2.1.block g hgl (fun e => hgq (Option.some.inj e).symm))
  have HE : Hid (∀ X, AS W b t g cg n R ms i (adC li lk z n) X → MxOw X b t (.slice (some ⟨g, 0, none⟩) n cg) (ms.set i (adL li lk z)) ∧ KeptO b t W X ∧ ∀ j, X.cell? ⟨g, j, none⟩ = W.cell? ⟨g, j, none⟩) := Lib.hid fun X h => by
    have e := adc_all (t := z) (show li.length = lk.length by omega)
    rw [l1] at e
    rw [← e]; exact h
  have hi16 : i < 16 := by omega
  have hk16 : k < 16 := by omega
  have hin : i < n := by omega
  have hkn : k < n := by omega
  have hnz : (0 : Int) ≤ (n : Int) := Int.natCast_nonneg _
  have hiz : (0 : Int) ≤ (i : Int) := Int.natCast_nonneg _
  have hkz : (0 : Int) ≤ (k : Int) := Int.natCast_nonneg _
  have hin' : (i : Int) < (n : Int) := by omega
  have hkn' : (k : Int) < (n : Int) := by omega
  clear hO hi hk l1 l2 hnl hil hkl hRo
  go_enter Try.func134, Try.ntmps134
  go_wp2_with fail
  go_loopw [10] (fun u10 wr => ∃ c : Nat, c ≤ n ∧ u10 = .int .i64 c ∧ AS W b t g cg n R ms i (adC li lk z c) wr) (fun u10 _ => n - (intOf u10).toNat)
  case atStart => exact ⟨0, Nat.zero_le _, rfl, HS0.out⟩
  case round =>
    clear HS0
    obtain ⟨c, hc, rfl, hs0⟩ := hrel
    have hs := Lib.hid hs0
    clear hs0 hR
    have hc0 : (0 : Int) ≤ (c : Int) := Int.natCast_nonneg _
    by_cases hcn : c < n
    · have hc1 : (c : Int) < (n : Int) := by omega
      have hd : decide ((c : Int) < (n : Int)) = true := decide_eq_true hc1
      have hbx := HBox.out _ _ hs.out.dr
      obtain ⟨q1, c1, q2, c2, x, y, e1, e2, f1, fz, f2, hnx0⟩ := HCell.out _ _ hs.out.dr hcn
      have hnx := Lib.hid hnx0
      clear hnx0
      go_wp2_with fail
      go_region
      all_goals go_wp2_with fail
      all_goals go_roundw
      case rel => exact ⟨c + 1, by omega, by go_num, hnx.out⟩
      case measure => simp [intOf]; omega
    · obtain rfl : c = n := by omega
      have hd : decide ((c : Int) < (c : Int)) = false := by simp
      have HE1 := Lib.hid (HE.out _ hs.out)
      clear hs HCell HBox HE
      go_wp2_with fail
      refine bodyPost_end (results_none (by kernel_rfl) _ _ _) rfl ?_
      exact ⟨rfl, HE1.out⟩
end Go.Proofs.Ythgnhamokikhkaa.detI
