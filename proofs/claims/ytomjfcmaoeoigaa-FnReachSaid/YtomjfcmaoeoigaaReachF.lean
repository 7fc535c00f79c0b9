/- What the law of reaching asks, without the program. -/
import Derived.Test.YtomjfcmaoeoigaaReachD
namespace Go.Proofs.Ytomjfcmaoeoigaa.reachF
open gridP bitP mazeP mazeQ reachP reachM reachN reachD

/-- What the law of reaching asks of a maze and two of its cells. -/
theorem facts {x y z : Int} {a b : Nat} (hv : OkM x y z) (ha : (a : Int) < x * y) (hb : (b : Int) < x * y) :
    dsZ x y z b a = dsZ x y z a b ∧ (decide ((b : Int) ∈ rsZ x y z a) = decide (0 ≤ dsZ x y z a b)) ∧ (0 ≤ dsZ x y z a b → (dsZ x y z a b - ((a : Int) % x + (a : Int) / x + (b : Int) % x + (b : Int) / x)) % 2 = 0) ∧ (dsZ x y z a b = 0 ↔ a = b) ∧ (-1 ≤ dsZ x y z a b ∧ dsZ x y z a b ≤ 16) ∧
    (∃ F : Nat, faZ x y z a = (F : Int) ∧ dsZ x y z a b ≤ dsZ x y z a F ∧ decide ((F : Int) ∈ rsZ x y z a) = true) ∧ 1 ≤ ptZ x y z ∧ ptZ x y z ≤ x * y ∧ cnB x y z = decide (((rsZ x y z a).length : Int) = x * y) ∧ (rsZ x y z a).length ≤ 16 := by
  have hha : hasB x y z a = true := decide_eq_true ⟨hv, by omega, ha⟩
  have hhb : hasB x y z b = true := decide_eq_true ⟨hv, by omega, hb⟩
  obtain ⟨-, k, hk, -, haN, -, hN16, hNN⟩ := has_form hha
  obtain rfl : a = k := by omega
  obtain ⟨-, j, hj, -, hbN, -, -, -⟩ := has_form hhb
  obtain rfl : b = j := by omega
  have hst := @stN_lt x y z
  have hbk := fun u q v h1 h2 => @stN_back x y z u q v h1 h2
  have hd : dsZ x y z a b = dZ (stN x y z) (cN x y) a b := by unfold dsZ; rw [if_pos ⟨hha, hhb⟩]; simp
  have hd' : dsZ x y z b a = dZ (stN x y z) (cN x y) b a := by unfold dsZ; rw [if_pos ⟨hhb, hha⟩]; simp
  have hr : rsZ x y z a = rlN (stN x y z) (cN x y) a (cN x y) := by unfold rsZ; rw [if_pos hha]; simp
  have hf : faZ x y z a = ((farN (fun v => dZ (stN x y z) (cN x y) a v) a (cN x y) : Nat) : Int) := by unfold faZ; rw [if_pos hha]; simp
  have hp : ptZ x y z = ((cpN (stN x y z) (cN x y) (cN x y) : Nat) : Int) := by unfold ptZ; rw [if_pos hv]
  have hfar := farN_far (D := fun v => dZ (stN x y z) (cN x y) a v) haN
  have hfd : ∀ F : Nat, F < cN x y → dsZ x y z a F = dZ (stN x y z) (cN x y) a F := fun F hF => by
    have hhF : hasB x y z F = true := decide_eq_true ⟨hv, by omega, by omega⟩
    unfold dsZ; rw [if_pos ⟨hha, hhF⟩]; simp
  have hge := dZ_ge b haN hst
  have hlen := rlN_len (stN x y z) (cN x y) a (cN x y)
  refine ⟨?_, ?_, ?_, ?_, ?_, ⟨farN (fun v => dZ (stN x y z) (cN x y) a v) a (cN x y), hf, ?_, ?_⟩, ?_, ?_, ?_, ?_⟩
  · rw [hd, hd']; exact dZ_sym hbN haN hst hbk
  · rw [hd, hr]
    refine decide_eq_decide.2 ⟨fun h => ?_, fun h => ?_⟩
    · obtain ⟨v, e, _, h2⟩ := (rlN_mem _ _ _ _ _).1 h
      obtain rfl : v = b := by omega
      exact h2
    · exact (rlN_mem _ _ _ _ _).2 ⟨b, rfl, hbN, h⟩
  · rw [hd]
    intro h
    obtain ⟨n, hn⟩ := (dZ_pos haN hst b).1 h
    rcases dZ_spec haN hst b with ⟨h1, h2⟩ | ⟨m, h1, _, h3, _⟩
    · omega
    · have := wk_par h3
      rw [h1]
      unfold par at this
      omega
  · rw [hd, dZ_self haN hst b]; omega
  · rw [hd]; omega
  · rw [hd, hfd _ hfar.1]
    rcases hfar.2 b hbN with h | ⟨h, _⟩
    · exact Int.le_of_lt h
    · exact Int.le_of_eq h
  · rw [hr, decide_eq_true_iff]
    refine (rlN_mem _ _ _ _ _).2 ⟨_, rfl, hfar.1, ?_⟩
    have h0 : dZ (stN x y z) (cN x y) a a = 0 := (dZ_self haN hst a).2 rfl
    rcases hfar.2 a haN with h | ⟨h, _⟩
    · simp only [h0] at h; exact Int.le_of_lt h
    · simp only [h0] at h; exact Int.le_of_eq h
  · rw [hp]; have := cpN_pos (stN x y z) (cN x y) (cN x y) (by omega); omega
  · rw [hp]; have := cpN_le (stN x y z) (cN x y) (cN x y); omega
  · unfold cnB
    rw [hp, hr, hNN]
    have := one_part hst hbk haN
    rw [Bool.eq_iff_iff]
    simp only [beq_iff_eq, decide_eq_true_eq]
    omega
  · rw [hr]; omega
end Go.Proofs.Ytomjfcmaoeoigaa.reachF
