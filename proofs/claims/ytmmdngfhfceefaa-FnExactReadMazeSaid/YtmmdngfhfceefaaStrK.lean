/- The laws' own words for lists of texts: equal lists are equal, marks are laid, and are found again. -/
import Derived.Test.YtmmdngfhfceefaaSplP
import Derived.Test.YtmmdngfhfceefaaFmtP
import Derived.WalkKit
import Derived.ProofKit
import Derived.OpenShut
import Derived.Below
import Derived.LoopTactic
import Derived.OwnWalk
import Derived.Laws.OwnMore
import Derived.Deep.RegionHeld3
import Derived.Deep.QuietTactic
import Derived.BigQuiet
import Derived.Lib.Hide
import Derived.Outline
namespace Go.Proofs.Ytmmdngfhfceefaa.strK
open Go.ChangeShapes Go.WideShapes Go.ChangeAt Go.RowKit
open hexP splP fmtP
set_option linter.unusedVariables false

theorem ret_str {a b : ByteArray} (h : a = b) : Ending.returned (.string a) = .returned (.string b) := by rw [h]
theorem ret_i64 {a b : Int} (h : a = b) : Ending.returned (.int .i64 a) = .returned (.int .i64 b) := by rw [h]

/-- What is owned stays owned where only blocks from B on have changed. -/
theorem own_below {w w' : World} {B base : Nat} {e : TypeId} {size n : Nat} {v : Value} {xs : List Value} (h : w.ownsRow base e size v n xs) (hb : Below B w w') (hv : ∀ g, v.ownBlock = some g → g < B) : w'.ownsRow base e size v n xs := by
  refine ⟨h.1, ?_⟩
  rcases h.2 with h2 | ⟨g, cap, cur, rfl, hg, hh, r⟩
  · exact .inl h2
  · exact .inr ⟨g, cap, cur, rfl, hg, (hb.block g (hv g rfl)).trans hh, r⟩
theorem own_lt {w : World} {base : Nat} {e : TypeId} {size n : Nat} {v : Value} {xs : List Value} (h : w.ownsRow base e size v n xs) : ∀ g, v.ownBlock = some g → g < w.heap.size := fun g hg => (h.lt g hg).2
theorem own_base {w : World} {base base' : Nat} {e : TypeId} {size n : Nat} {v : Value} {xs : List Value} (h : w.ownsRow base e size v n xs) (hb : base' ≤ base) : w.ownsRow base' e size v n xs := by
  refine ⟨h.1, ?_⟩
  rcases h.2 with h2 | ⟨g, cap, cur, rfl, hg, r⟩
  · exact .inl h2
  · exact .inr ⟨g, cap, cur, rfl, by omega, r⟩
theorem own_some {w : World} {base : Nat} {e : TypeId} {size n : Nat} {v : Value} {xs : List Value} (h : w.ownsRow base e size v n xs) (hn : 0 < n) : ∃ g c, v = .slice (some ⟨g, 0, none⟩) n c ∧ base ≤ g ∧ g < w.heap.size := by
  rcases h.2 with ⟨_, h2⟩ | ⟨g, cap, cur, rfl, hg, hh, r⟩
  · omega
  · exact ⟨g, cap, rfl, hg, (Array.getElem?_eq_some_iff.1 hh).1⟩

/-- The text of a mark. -/
def mtext (n : Nat) : ByteArray := ⟨(109 :: dg n).toArray⟩

theorem conv_one (w : World) (c : UInt8) : (convert 41 9 (.slice (some ⟨w.heap.size, 0, none⟩) 1 1)).run Try.prog (w.alloc (.cells #[.int .u8 (c.toNat : Int)] 5)) = .ok (.string ⟨#[c]⟩) (w.alloc (.cells #[.int .u8 (c.toNat : Int)] 5)) :=
  run_convert_bytes_back (P := Try.prog) _ 41 9 5 ⟨w.heap.size, 0, none⟩ 1 [c] Try.underlying41 Try.underlying5 Try.underlying9 fun j hj => by
    have : j = 0 := by simp at hj; omega
    subst this
    simp [Addr.add]
theorem conv_dig (w : World) (x : Nat) : (convert 41 9 (.slice (some ⟨w.heap.size, 0, none⟩) 1 1)).run Try.prog (w.alloc (.cells #[.int .u8 (48 + (x : Int) % 10)] 5)) = .ok (.string ⟨#[fig (x % 10)]⟩) (w.alloc (.cells #[.int .u8 (48 + (x : Int) % 10)] 5)) := by
  have e : 48 + (x : Int) % 10 = ((fig (x % 10)).toNat : Int) := by rw [fig_lt _ (by omega), if_pos (by omega)]; omega
  rw [e]
  exact conv_one w _

/-- At the head of a round: the digits of x are still to be written, l are written. -/
def MarkRel (n : Nat) (w : World) (u0 u3 : Value) (wr : World) : Prop :=
  ∃ (x : Nat) (l : List UInt8), u0 = .int .i64 x ∧ u3 = .string ⟨l.toArray⟩ ∧ x ≤ n ∧ dg n = dg x ++ l ∧ Below w.heap.size w wr
theorem mark_step {n x : Nat} {w wr : World} {l : List UInt8} (h0 : 0 < x) (hx : x ≤ n) (hl : dg n = dg x ++ l) (hb : Below w.heap.size w wr) (o : Obj) :
    MarkRel n w (.int .i64 ((x : Int) / 10)) (.string ⟨(fig (x % 10) :: l).toArray⟩) (wr.alloc o) := by
  refine ⟨x / 10, _, by rw [show ((x / 10 : Nat) : Int) = (x : Int) / 10 from by omega], rfl, by omega, ?_, hb.alloc hb.size _⟩
  rw [hl, dg_step x (by omega)]
  simp

set_option maxRecDepth 100000 in
theorem mtext_any (m : Int) (n : Nat) (w : World) (hm : m = (n : Int)) (h0 : 0 < n) (h1 : n ≤ 1000000000) :
    Calls Try.prog 23 #[.int .i64 m] w fun e w' => e = .returned (.string (mtext n)) ∧ Below w.heap.size w w' := by
  subst hm
  have HB := Lib.hid (Below.refl w.heap.size w)
  go_enter Try.func23, Try.ntmps23
  go_wp2_with fail
  go_loopw [0, 3] (fun u0 u3 wr => MarkRel n w u0 u3 wr) (fun u0 _ _ => (intOf u0).toNat)
  case atStart => exact ⟨n, [], rfl, rfl, Nat.le_refl _, by simp, HB.out⟩
  case round =>
    obtain ⟨x, l, rfl, rfl, hx, hl, hb⟩ := hrel
    have hlen : l.length ≤ 19 := by
      have := dg_len19 (n : Int) (by omega) (by omega)
      simp only [Int.natAbs_natCast] at this
      rw [hl, List.length_append] at this; omega
    have HL := Lib.hid hl
    clear hl HB
    by_cases hx0 : 0 < x
    · have HS := Lib.hid (fun o => mark_step (w := w) hx0 hx HL.out hb o)
      have hcv := conv_dig wr x
      go_wp2_with fail
      go_roundw
      case rel => exact HS.out _
      case measure => simp [intOf]; omega
    · obtain rfl : x = 0 := by omega
      have hd : dg n = l := by have := HL.out; simpa [dg] using this
      have HD := Lib.hid hd
      clear hd
      go_wp2_with fail
      go_ret
      exact ⟨ret_str (by unfold mtext; rw [HD.out]; rfl), hb⟩

/-- The cells with the marks from m on. -/
def marks (m n : Nat) : List Value := (List.range n).map fun j => .string (mtext (m + j))
theorem marks_length (m n : Nat) : (marks m n).length = n := by simp [marks]
theorem marks_at (m n j : Nat) (h : j < n) : (marks m n)[j]? = some (.string (mtext (m + j))) := by simp [marks, h]
/-- The first j cells are marked. -/
def part (m j : Nat) (xs : List Value) : List Value := marks m j ++ xs.drop j
theorem part_zero (m : Nat) (xs : List Value) : part m 0 xs = xs := by simp [part, marks]
theorem part_all (m n : Nat) (xs : List Value) (h : xs.length = n) : part m n xs = marks m n := by simp [part, List.drop_of_length_le (Nat.le_of_eq h)]
theorem part_set (m j : Nat) (xs : List Value) (h : j < xs.length) : (part m j xs).set j (.string (mtext (m + j))) = part m (j + 1) xs := by
  apply List.ext_getElem?
  intro i
  unfold part
  rw [List.getElem?_set, List.getElem?_append, List.getElem?_append, List.length_append, marks_length, marks_length, List.length_drop]
  by_cases hij : j = i
  · subst hij
    rw [if_pos rfl, if_pos (by omega), if_pos (by omega), marks_at _ _ _ (by omega)]
  · rw [if_neg hij]
    by_cases hlt : i < j
    · rw [if_pos hlt, if_pos (by omega), marks_at _ _ _ hlt, marks_at _ _ _ (by omega)]
    · rw [if_neg hlt, if_neg (by omega), List.getElem?_drop, List.getElem?_drop]
      congr 1; omega

set_option maxRecDepth 100000 in
/-- Two slices that hold the same texts are equal. -/
theorem eq_same (va vb : Value) (ba bb n : Nat) (xs : List ByteArray) (w : World) (hx : xs.length = n) (hn : n ≤ 2000000)
    (ha : w.ownsRow ba 9 1 va n (xs.map Value.string)) (hb : w.ownsRow bb 9 1 vb n (xs.map Value.string)) :
    Calls Try.prog 8 #[va, vb] w fun e w' => e = .returned (.bool true) ∧ ∃ d, w' = w.drewN d := by
  obtain ⟨Aa, ca, rfl⟩ := own_form ha
  obtain ⟨Ab, cb, rfl⟩ := own_form hb
  by_cases h0 : n = 0
  · subst h0
    clear ha hb
    go_enter Try.func8, Try.ntmps8
    go_wp2_with fail
    go_loopw [5] (fun u5 wr => u5 = .int .i64 0 ∧ wr = w) (fun _ _ => 0)
    case atStart => exact ⟨rfl, rfl⟩
    case round =>
      obtain ⟨rfl, rfl⟩ := hrel
      go_wp2_with fail
      go_ret
      exact ⟨rfl, 0, rfl⟩
  · obtain ⟨ga, ca', ea, _, hga⟩ := own_some ha (by omega)
    obtain ⟨gb, cb', eb, _, hgb⟩ := own_some hb (by omega)
    injection ea with ea1 _ ea2
    injection eb with eb1 _ eb2
    subst ea1 ea2 eb1 eb2
    have HA := Lib.hid (fun k (hk : k < n) => ha.cellAt k (by omega))
    have HB := Lib.hid (fun k (hk : k < n) => hb.cellAt k (by omega))
    have hnn : ((n : Int) != (n : Int)) = false := by simp
    clear ha hb
    go_enter Try.func8, Try.ntmps8
    go_wp2_with fail
    go_loopw [5] (fun u5 wr => ∃ k d : Nat, k ≤ n ∧ u5 = .int .i64 k ∧ wr = w.drewN d) (fun u5 _ => n - (intOf u5).toNat)
    case atStart => exact ⟨0, 0, Nat.zero_le _, rfl, rfl⟩
    case round =>
      obtain ⟨k, d, hk, rfl, rfl⟩ := hrel
      by_cases hlt : k < n
      · have e : (xs.map Value.string)[k]? = some (.string (xs[k]'(by omega))) := by
          rw [List.getElem?_map, List.getElem?_eq_getElem (by omega)]; rfl
        have c1 : w.cell? ⟨ga, k, none⟩ = some (.string (xs[k]'(by omega))) := (HA.out k hlt).trans e
        have c2 : w.cell? ⟨gb, k, none⟩ = some (.string (xs[k]'(by omega))) := (HB.out k hlt).trans e
        have hk0 : (0 : Int) ≤ (k : Int) := Int.natCast_nonneg _
        have hk1 : (k : Int) < (n : Int) := by omega
        clear e
        generalize xs[k]'(by omega) = x at c1 c2
        go_wp2_with fail
        go_quiet (fail)
        go_wp2_with fail
        go_roundw
        case rel => exact ⟨k + 1, _, by omega, by go_num, rfl⟩
        case measure => simp [intOf]; omega
      · go_wp2_with fail
        go_ret
        exact ⟨rfl, d, rfl⟩

/-- At the head of a round of marking. -/
def MkRel (base m n : Nat) (v : Value) (xs : List Value) (w : World) (u1 u5 : Value) (wr : World) : Prop :=
  ∃ j : Nat, j ≤ n ∧ u5 = .int .i64 j ∧ u1 = .int .i64 ((m + j : Nat) : Int) ∧ wr.ownsRow base 9 1 v n (part m j xs) ∧ Below base w wr
theorem mk_step {base m n j g c : Nat} {xs : List Value} {w wr w1 : World} (hlt : j < n) (hx : xs.length = n) (hown : wr.ownsRow base 9 1 (.slice (some ⟨g, 0, none⟩) n c) n (part m j xs)) (hB : base ≤ w.heap.size) (hg : base ≤ g) (hb : Below base w wr) (hb1 : Below wr.heap.size wr w1) :
    MkRel base m n (.slice (some ⟨g, 0, none⟩) n c) xs w (.int .i64 ((m : Int) + (j : Int) + 1)) (.int .i64 ((j : Int) + 1)) (w1.setCell ⟨g, j, none⟩ (.string (mtext (m + j)))) := by
  have h1 := (own_below hown hb1 (own_lt hown)).stored j (.string (mtext (m + j)))
  refine ⟨j + 1, hlt, by go_num, by rw [show ((m + (j + 1) : Nat) : Int) = (m : Int) + (j : Int) + 1 from by omega], ?_, (hb.trans (hb1.mono (by have := hb.size; omega))).setCell hg _⟩
  rw [part_set m j xs (by omega)] at h1
  exact h1.1

set_option maxRecDepth 100000 in
/-- Marks are laid into a slice. -/
theorem mark_any (v : Value) (base n : Nat) (m : Nat) (mi : Int) (xs : List Value) (w : World) (hmi : mi = (m : Int)) (hm : 0 < m) (hn : m + n ≤ 1000000) (hB : base ≤ w.heap.size) (hown : w.ownsRow base 9 1 v n xs) :
    Calls Try.prog 9 #[v, .int .i64 mi] w fun e w' => e = .returned (.int .i64 ((m + n : Nat) : Int)) ∧ w'.ownsRow base 9 1 v n (marks m n) ∧ Below base w w' := by
  subst hmi
  have hxl : xs.length = n := by have := hown.1; omega
  by_cases h0 : n = 0
  · subst h0
    have hxs : xs = [] := List.eq_nil_of_length_eq_zero hxl
    subst hxs
    have HO := Lib.hid (show w.ownsRow base 9 1 v 0 (marks m 0) from hown)
    obtain ⟨A, c, rfl⟩ := own_form hown
    clear hown
    go_enter Try.func9, Try.ntmps9
    go_wp2_with fail
    go_loopw [1, 5] (fun u1 u5 wr => u1 = .int .i64 (m : Int) ∧ u5 = .int .i64 0 ∧ wr = w) (fun _ _ _ => 0)
    case atStart => exact ⟨rfl, rfl, rfl⟩
    case round =>
      obtain ⟨rfl, rfl, rfl⟩ := hrel
      go_wp2_with fail
      go_ret
      exact ⟨rfl, HO.out, Below.refl _ _⟩
  · obtain ⟨g, c, rfl, hg, hgs⟩ := own_some hown (by omega)
    have HO := Lib.hid (show w.ownsRow base 9 1 (.slice (some ⟨g, 0, none⟩) n c) n (part m 0 xs) by rw [part_zero]; exact hown)
    have HR := Lib.hid (Below.refl base w)
    clear hown
    go_enter Try.func9, Try.ntmps9
    go_wp2_with fail
    go_loopw [1, 5] (fun u1 u5 wr => MkRel base m n (.slice (some ⟨g, 0, none⟩) n c) xs w u1 u5 wr) (fun _ u5 _ => n - (intOf u5).toNat)
    case atStart => exact ⟨0, Nat.zero_le _, rfl, rfl, HO.out, HR.out⟩
    case round =>
      obtain ⟨j, hj, rfl, rfl, hown, hb⟩ := hrel
      clear HO HR
      by_cases hlt : j < n
      · have K := Lib.hid (fun W => mtext_any ((m + j : Nat) : Int) (m + j) W rfl (by omega) (by omega))
        have hk0 : (0 : Int) ≤ (j : Int) := Int.natCast_nonneg _
        have hk1 : (j : Int) < (n : Int) := by omega
        go_wp2_with fail
        refine (K.out _).mono ?_
        rintro e w1 ⟨rfl, hb1⟩
        have hpl : (part m j xs).length = n := by have := hown.1; omega
        have hcell : w1.cell? ⟨g, j, none⟩ = some ((part m j xs)[j]'(by omega)) := by
          rw [(own_below hown hb1 (own_lt hown)).cellAt j (by omega), List.getElem?_eq_getElem (by omega)]
        have hfz : w1.frozen? ⟨g, j, none⟩ = false := (own_below hown hb1 (own_lt hown)).frozenAt j
        generalize (part m j xs)[j]'(by omega) = old at hcell
        clear hpl
        go_wp2_with fail
        go_roundw
        case rel => exact mk_step hlt hxl hown hB hg hb hb1
        case measure => simp [intOf]; omega
      · obtain rfl : j = n := by omega
        rw [part_all m j xs hxl] at hown
        go_wp2_with fail
        go_ret
        exact ⟨rfl, hown, hb⟩

set_option maxRecDepth 100000 in
/-- Marks are found again. -/
theorem held_any (v : Value) (base n : Nat) (m : Nat) (mi : Int) (w : World) (hmi : mi = (m : Int)) (hm : 0 < m) (hn : m + n ≤ 1000000) (hown : w.ownsRow base 9 1 v n (marks m n)) :
    Calls Try.prog 10 #[v, .int .i64 mi] w fun e w' => e = .returned (.int .i64 ((m + n : Nat) : Int)) ∧ Below w.heap.size w w' := by
  subst hmi
  have HR := Lib.hid (Below.refl w.heap.size w)
  by_cases h0 : n = 0
  · subst h0
    obtain ⟨A, c, rfl⟩ := own_form hown
    clear hown
    go_enter Try.func10, Try.ntmps10
    go_wp2_with fail
    go_loopw [1, 5] (fun u1 u5 wr => u1 = .int .i64 (m : Int) ∧ u5 = .int .i64 0 ∧ wr = w) (fun _ _ _ => 0)
    case atStart => exact ⟨rfl, rfl, rfl⟩
    case round =>
      obtain ⟨rfl, rfl, rfl⟩ := hrel
      go_wp2_with fail
      go_ret
      exact ⟨rfl, HR.out⟩
  · obtain ⟨g, c, rfl, hg, hgs⟩ := own_some hown (by omega)
    have HC := Lib.hid (fun (wr : World) (hb : Below w.heap.size w wr) j (hj : j < n) => show wr.cell? ⟨g, j, none⟩ = some (.string (mtext (m + j))) by
      rw [(own_below hown hb (own_lt hown)).cellAt j (by omega), marks_at m n j hj])
    clear hown
    go_enter Try.func10, Try.ntmps10
    go_wp2_with fail
    go_loopw [1, 5] (fun u1 u5 wr => ∃ j : Nat, j ≤ n ∧ u5 = .int .i64 j ∧ u1 = .int .i64 ((m + j : Nat) : Int) ∧ Below w.heap.size w wr) (fun _ u5 _ => n - (intOf u5).toNat)
    case atStart => exact ⟨0, Nat.zero_le _, rfl, rfl, HR.out⟩
    case round =>
      obtain ⟨j, hj, rfl, rfl, hb⟩ := hrel
      clear HR
      by_cases hlt : j < n
      · have K := Lib.hid (fun W => mtext_any ((m + j : Nat) : Int) (m + j) W rfl (by omega) (by omega))
        have hk0 : (0 : Int) ≤ (j : Int) := Int.natCast_nonneg _
        have hk1 : (j : Int) < (n : Int) := by omega
        have hcell := HC.out wr hb j hlt
        go_wp2_with fail
        go_region_held3 (fun w' => w'.cell? ⟨g, j, none⟩ = some (.string (mtext (m + j))) ∧ Below w.heap.size w w') (first | (exact ⟨by assumption, by assumption⟩) | (refine ⟨HC.out _ (hb.drew) j hlt, hb.drew⟩) | (refine ⟨HC.out _ (hb.drew.trans (hb1.mono (by have := hb.size; simpa using this))) j hlt, hb.drew.trans (hb1.mono (by have := hb.size; simpa using this))⟩))
          (first | (go_at_call 23; refine (K.out _).mono ?_; rintro e w1 ⟨rfl, hb1⟩))
        all_goals
          obtain ⟨_, hb2⟩ := ‹w1.cell? ⟨g, j, none⟩ = some (.string (mtext (m + j))) ∧ Below w.heap.size w w1›
          clear hb1 hcell
          go_wp2_with fail
          go_roundw
          case rel => exact ⟨j + 1, by omega, by go_num, by rw [show ((m + (j + 1) : Nat) : Int) = (m : Int) + (j : Int) + 1 from by omega], hb2⟩
          case measure => simp [intOf]; omega
      · obtain rfl : j = n := by omega
        go_wp2_with fail
        go_ret
        exact ⟨rfl, hb⟩
end Go.Proofs.Ytmmdngfhfceefaa.strK
