/- The contract of the program's chooser: the next choice modulo a number. -/
import Derived.Test.YthakbjdkcdppjaaGrwO
namespace Go.Proofs.Ythakbjdkcdppjaa.grwI
open Go.ChangeShapes Go.WideShapes Go.ChangeAt Go.RowKit
open draw gridP gridC gridE bitP mazeP mazeC mazeM intsP reachP reachM reachN reachD intA listK wayP ersP ersO entO grwP grwO
set_option linter.unusedVariables false

/-- What a chooser holds when k choices are used. -/
def ChV (X : World) (B : Nat) (cs : List Int) (k : Nat) (v : Value) : Prop := ∃ A n c, v = .slice A n c ∧ (cs.drop k).length = n ∧ n ≤ c ∧ IntsIn X B A (cs.drop k)
theorem ChV.keep {X X' : World} {B : Nat} {cs : List Int} {k : Nat} {v : Value} (h : ChV X B cs k v) (hb : Below B X X') : ChV X' B cs k v := by
  obtain ⟨A, n, c, e, hn, hc, hi⟩ := h
  exact ⟨A, n, c, e, hn, hc, hi.below hb⟩
/-- What is behind the next choice. -/
def NxP (p : Addr) (B : Nat) (cs : List Int) (k : Nat) (v : Value) (W w' : World) : Prop := ∃ v', ChV W B cs (k + 1) v' ∧ (w' = W ∧ v' = v ∨ w' = W.setCell p v')

theorem add_add (a : Addr) (i j : Nat) : (a.add i).add j = a.add (i + j) := by
  rcases Nat.eq_zero_or_pos i with rfl | hi
  · rw [Nat.zero_add]; rfl
  · rcases Nat.eq_zero_or_pos j with rfl | hj
    · rfl
    · unfold Addr.add
      rw [if_neg (by omega), if_neg (by omega), if_neg (by omega)]
      simp; omega

theorem nx_rem {cs : List Int} {k m : Nat} (hm : 1 ≤ m) : chZ cs k % (m : Int) = (((chZ cs k).toNat % m : Nat) : Int) := by
  have h := ch_ge cs k
  obtain ⟨u, hu⟩ : ∃ u : Nat, chZ cs k = u := ⟨(chZ cs k).toNat, by omega⟩
  rw [hu, Int.toNat_natCast]
  rfl

set_option maxRecDepth 100000 in
theorem next_any (b off k m B : Nat) (cs : List Int) (v : Value) (W : World) (hc : W.cell? ⟨b, off, none⟩ = some v) (hz : W.frozen? ⟨b, off, none⟩ = false) (hv : ChV W B cs k v) (hm : 1 ≤ m) (hm2 : m ≤ 1000) :
    Calls Try.prog 27 #[.pointer (some ⟨b, off, none⟩), .int .i64 (m : Int)] W fun e w' => e = .returned (.int .i64 (((chZ cs k).toNat % m : Nat) : Int)) ∧ NxP ⟨b, off, none⟩ B cs k v W w' := by
  obtain ⟨A, n, c, rfl, hn, hnc, hi⟩ := hv
  have hr := nx_rem (cs := cs) (k := k) hm
  by_cases h0 : n = 0
  · subst h0
    have hd : cs.drop k = [] := List.eq_nil_of_length_eq_zero hn
    have hd1 : cs.drop (k + 1) = [] := by rw [← List.drop_drop, hd]; rfl
    have h1 : (((chZ cs k).toNat % m : Nat) : Int) = 0 := by
      rw [ch_out (by have := List.drop_eq_nil_iff.1 hd; omega)]; simp
    have HP : Hid (NxP ⟨b, off, none⟩ B cs k (.slice A 0 c) W W) := Lib.hid ⟨_, ⟨A, 0, c, rfl, by rw [hd1]; rfl, by omega, by rw [hd1]; exact fun h => absurd rfl h⟩, .inl ⟨rfl, rfl⟩⟩
    rw [h1]
    clear hn hnc hi hr hd hd1 h1
    go_enter Try.func27, Try.ntmps27
    go_wp2_with fail
    go_ret
    exact ⟨rfl, HP.out⟩
  · obtain ⟨u, hu⟩ : ∃ u, (cs.drop k)[0]? = some u := ⟨(cs.drop k)[0]'(by omega), List.getElem?_eq_getElem _⟩
    obtain ⟨ad, rfl, hab, hcell⟩ := ints_cell hi hu
    have hcell' : W.cell? ad = some (.int .i64 u) := by rw [← hcell]; obtain ⟨g, o, s⟩ := ad; rfl
    have hch : chZ cs k = max 0 u := ch_in (by rw [List.getElem?_drop] at hu; exact hu)
    have hd1 : (cs.drop (k + 1)).length = n - 1 := by rw [← List.drop_drop, List.length_drop]; omega
    have HP : Hid (∀ A', (c = 1 ∨ A' = some (ad.add 1)) → NxP ⟨b, off, none⟩ B cs k (.slice (some ad) n c) W (W.setCell ⟨b, off, none⟩ (.slice A' (n - 1) (c - 1)))) := Lib.hid fun A' hA => by
      refine ⟨_, ⟨A', n - 1, c - 1, rfl, hd1, by omega, ?_⟩, .inr rfl⟩
      intro hne
      have hn1 : 1 < n := by
        rcases Nat.lt_or_ge 1 n with h | h
        · exact h
        · exact absurd (List.eq_nil_of_length_eq_zero (by omega)) hne
      rcases hA with h | h
      · omega
      · obtain ⟨ad', e, hb', hall⟩ := hi (fun e => by rw [e] at hu; cases hu)
        cases e
        refine ⟨_, h, by rw [block_of_add]; exact hab, fun j q hj => ?_⟩
        have := hall (1 + j) q (by rw [← hj, List.getElem?_drop, List.getElem?_drop]; congr 1; omega)
        rw [← this]
        congr 1
        obtain ⟨g, o, s⟩ := ad
        exact add_add _ _ _
    have hn1 : (1 : Int) ≤ (n : Int) := by omega
    have hnz : ((n : Int) == 0) = false := by simpa using h0
    have hn0 : (0 : Int) < (n : Int) := by omega
    have hc1 : (n : Int) ≤ (c : Int) := by omega
    have hmz : ¬ (m : Int) = 0 := by omega
    clear hn hi hab hd1 hnc
    by_cases hcap : c = 1
    · subst hcap
      have HP1 := Lib.hid (HP.out (some ad) (.inl rfl))
      by_cases hu0 : u < 0
      · rw [show max 0 u = 0 by omega] at hch
        rw [hch] at hr ⊢
        go_enter Try.func27, Try.ntmps27
        go_wp2_with fail
        go_ret
        first | exact ⟨rfl, HP1.out⟩ | exact ⟨by rw [hr], HP1.out⟩ | exact ⟨by rw [← hr]; simp, HP1.out⟩
      · rw [show max 0 u = u by omega] at hch
        rw [hch] at hr ⊢
        go_enter Try.func27, Try.ntmps27
        go_wp2_with fail
        go_ret
        first | exact ⟨rfl, HP1.out⟩ | exact ⟨by rw [hr], HP1.out⟩ | exact ⟨by rw [← hr]; simp, HP1.out⟩
    · have HP1 := Lib.hid (HP.out (some (ad.add 1)) (.inr rfl))
      have hcz : ¬ (c : Int) = 1 := by omega
      by_cases hu0 : u < 0
      · rw [show max 0 u = 0 by omega] at hch
        rw [hch] at hr ⊢
        go_enter Try.func27, Try.ntmps27
        go_wp2_with fail
        go_ret
        first | exact ⟨rfl, HP1.out⟩ | exact ⟨by rw [hr], HP1.out⟩ | exact ⟨by rw [← hr]; simp, HP1.out⟩
      · rw [show max 0 u = u by omega] at hch
        rw [hch] at hr ⊢
        go_enter Try.func27, Try.ntmps27
        go_wp2_with fail
        go_ret
        first | exact ⟨rfl, HP1.out⟩ | exact ⟨by rw [hr], HP1.out⟩ | exact ⟨by rw [← hr]; simp, HP1.out⟩
end Go.Proofs.Ythakbjdkcdppjaa.grwI
