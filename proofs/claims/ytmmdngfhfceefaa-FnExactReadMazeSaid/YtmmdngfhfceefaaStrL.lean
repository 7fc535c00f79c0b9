/- Lists of texts of the laws: compared, marked, found again, copied, measured. -/
import Derived.Test.YtmmdngfhfceefaaStrK
import Derived.Test.YtmmdngfhfceefaaLinR
import Derived.Deep.Strs
namespace Go.Proofs.Ytmmdngfhfceefaa.strL
open Go.ChangeShapes Go.WideShapes Go.ChangeAt Go.RowKit
open draw gridC intsP listK splP listT linR
set_option linter.unusedVariables false

theorem scells_map (l : List (List UInt8)) : scells l = (l.map fun f => (⟨f.toArray⟩ : ByteArray)).map Value.string := by simp [scells]
theorem eq_b (va vb : Value) (ba bb n : Nat) (l : List (List UInt8)) (w : World) (hx : l.length = n) (hn : n ≤ 2000000)
    (ha : w.ownsRow ba 9 1 va n (scells l)) (hb : w.ownsRow bb 9 1 vb n (scells l)) :
    Calls Try.prog 8 #[va, vb] w fun e w' => e = .returned (.bool true) ∧ Below w.heap.size w w' := by
  rw [scells_map] at ha hb
  exact (strK.eq_same va vb ba bb n _ w (by simpa using hx) hn ha hb).mono fun e w' ⟨he, d, hw⟩ => ⟨he, by rw [hw]; exact ⟨rfl, rfl, rfl, Nat.le_refl _, fun _ _ => rfl⟩⟩

theorem cellsStr : Try.prog.cellsOf 9 = 1 := by kernel_rfl
/-- At the head of a round of marking: only one block has changed. -/
def MkOne (base m n : Nat) (v : Value) (xs : List Value) (w : World) (u1 u5 : Value) (wr : World) : Prop :=
  ∃ j : Nat, j ≤ n ∧ u5 = .int .i64 j ∧ u1 = .int .i64 ((m + j : Nat) : Int) ∧ wr.ownsRow base 9 1 v n (strK.part m j xs) ∧ w.grownBy wr v.ownBlock
theorem grown_below {w X X' : World} {row : Option Nat} (h : w.grownBy X row) (hb : Below X.heap.size X X') : w.grownBy X' row :=
  ⟨hb.os.trans h.os, hb.tape.trans h.tape, hb.output.trans h.output, Nat.le_trans h.size hb.size, fun k hk hne => (hb.block k (Nat.lt_of_lt_of_le hk h.size)).trans (h.block k hk hne)⟩
theorem mk_one {base m n j g c : Nat} {xs : List Value} {w wr w1 : World} (hlt : j < n) (hx : xs.length = n) (hown : wr.ownsRow base 9 1 (.slice (some ⟨g, 0, none⟩) n c) n (strK.part m j xs)) (hb : w.grownBy wr (some g)) (hb1 : Below wr.heap.size wr w1) :
    MkOne base m n (.slice (some ⟨g, 0, none⟩) n c) xs w (.int .i64 ((m : Int) + (j : Int) + 1)) (.int .i64 ((j : Int) + 1)) (w1.setCell ⟨g, j, none⟩ (.string (strK.mtext (m + j)))) := by
  have h1 := (own_call hown hb1).stored j (.string (strK.mtext (m + j)))
  refine ⟨j + 1, hlt, by go_num, by rw [show ((m + (j + 1) : Nat) : Int) = (m : Int) + (j : Int) + 1 from by omega], ?_, grown_set (grown_below hb hb1) _⟩
  rw [strK.part_set m j xs (by omega)] at h1
  exact h1.1

set_option maxRecDepth 100000 in
/-- Marks are laid into a slice. -/
theorem mark_one (v : Value) (base n : Nat) (m : Nat) (mi : Int) (xs : List Value) (w : World) (hmi : mi = (m : Int)) (hm : 0 < m) (hn : m + n ≤ 1000000) (hown : w.ownsRow base 9 1 v n xs) :
    Calls Try.prog 9 #[v, .int .i64 mi] w fun e w' => e = .returned (.int .i64 ((m + n : Nat) : Int)) ∧ w'.ownsRow base 9 1 v n (strK.marks m n) ∧ w.grownBy w' v.ownBlock := by
  subst hmi
  have hxl : xs.length = n := by have := hown.1; omega
  by_cases h0 : n = 0
  · subst h0
    have hxs : xs = [] := List.eq_nil_of_length_eq_zero hxl
    subst hxs
    have HO := Lib.hid (show w.ownsRow base 9 1 v 0 (strK.marks m 0) from hown)
    obtain ⟨A, c, rfl⟩ := intsP.own_form hown
    clear hown
    go_enter Try.func9, Try.ntmps9
    go_wp2_with fail
    go_loopw [1, 5] (fun u1 u5 wr => u1 = .int .i64 (m : Int) ∧ u5 = .int .i64 0 ∧ wr = w) (fun _ _ _ => 0)
    case atStart => exact ⟨rfl, rfl, rfl⟩
    case round =>
      obtain ⟨rfl, rfl, rfl⟩ := hrel
      go_wp2_with fail
      go_ret
      exact ⟨rfl, HO.out, grown_refl _ _⟩
  · obtain ⟨g, c, rfl, hg, hgs⟩ := own_some hown (by omega)
    have HO := Lib.hid (show w.ownsRow base 9 1 (.slice (some ⟨g, 0, none⟩) n c) n (strK.part m 0 xs) by rw [strK.part_zero]; exact hown)
    have HR := Lib.hid (grown_refl w (some g))
    clear hown
    go_enter Try.func9, Try.ntmps9
    go_wp2_with fail
    go_loopw [1, 5] (fun u1 u5 wr => MkOne base m n (.slice (some ⟨g, 0, none⟩) n c) xs w u1 u5 wr) (fun _ u5 _ => n - (intOf u5).toNat)
    case atStart => exact ⟨0, Nat.zero_le _, rfl, rfl, HO.out, HR.out⟩
    case round =>
      obtain ⟨j, hj, rfl, rfl, hown, hb⟩ := hrel
      clear HO HR
      by_cases hlt : j < n
      · have K := Lib.hid (fun W => strK.mtext_any ((m + j : Nat) : Int) (m + j) W rfl (by omega) (by omega))
        have hk0 : (0 : Int) ≤ (j : Int) := Int.natCast_nonneg _
        have hk1 : (j : Int) < (n : Int) := by omega
        go_wp2_with fail
        refine (K.out _).mono ?_
        rintro e w1 ⟨rfl, hb1⟩
        have hpl : (strK.part m j xs).length = n := by have := hown.1; omega
        have HS := Lib.hid (mk_one (w := w) hlt hxl hown hb hb1)
        have hcell : w1.cell? ⟨g, j, none⟩ = some ((strK.part m j xs)[j]'(by omega)) := by
          rw [(own_call hown hb1).cellAt j (by omega), List.getElem?_eq_getElem (by omega)]
        have hfz : w1.frozen? ⟨g, j, none⟩ = false := (own_call hown hb1).frozenAt j
        generalize (strK.part m j xs)[j]'(by omega) = old at hcell
        clear hpl
        go_wp2_with fail
        go_roundw
        case rel => exact HS.out
        case measure => simp [intOf]; omega
      · obtain rfl : j = n := by omega
        rw [strK.part_all m j xs hxl] at hown
        go_wp2_with fail
        go_ret
        exact ⟨rfl, hown, hb⟩

/-- While a list of texts is copied. -/
def CS (W : World) (n : Nat) (l : List (List UInt8)) (u3 : Value) (X : World) : Prop :=
  ∃ k : Nat, k ≤ n ∧ u3 = .int .i64 k ∧ Below W.heap.size W X ∧ X.ownsRow W.heap.size 9 1 (.slice (some ⟨W.heap.size, 0, none⟩) n n) n (scells (l.take k ++ List.replicate (n - k) []))
theorem cs_step {W X : World} {n k : Nat} {l : List (List UInt8)} {u : List UInt8} (hk : k < n) (hn : n = l.length) (hu : l[k]? = some u) (hb : Below W.heap.size W X) (ho : X.ownsRow W.heap.size 9 1 (.slice (some ⟨W.heap.size, 0, none⟩) n n) n (scells (l.take k ++ List.replicate (n - k) []))) :
    CS W n l (.int .i64 ((k : Int) + 1)) (X.setCell ⟨W.heap.size, k, none⟩ (.string ⟨u.toArray⟩)) := by
  refine ⟨k + 1, by omega, by go_num, hb.setCell (Nat.le_refl _) _, ?_⟩
  have h1 := (ho.stored k (.string ⟨u.toArray⟩)).1
  have e : (scells (l.take k ++ List.replicate (n - k) [])).set k (.string ⟨u.toArray⟩) = scells (l.take (k + 1) ++ List.replicate (n - (k + 1)) []) := by
    have hl : (l.take k).length = k := by rw [List.length_take]; omega
    have hr : List.replicate (n - k) ([] : List UInt8) = [] :: List.replicate (n - (k + 1)) [] := by
      rw [show n - k = (n - (k + 1)) + 1 by omega]; rfl
    have ht : l.take (k + 1) = l.take k ++ [u] := by rw [List.take_add_one, hu]; rfl
    have hs : (l.take k ++ List.replicate (n - k) []).set k u = l.take (k + 1) ++ List.replicate (n - (k + 1)) [] := by
      rw [List.set_append_right _ _ (by omega), hl, Nat.sub_self, hr, ht]
      simp
    rw [← hs]
    simp [scells, List.map_set]
  rwa [e] at h1
theorem made_str : ∀ n : Nat, (madeCells (Value.string ⟨#[]⟩).cells n).toList = scells (List.replicate n []) := by
  intro n
  simp [madeCells, Value.cells, scells]
  apply List.ext_getElem
  · simp
  · intro i h1 h2; simp [Nat.mod_one]

set_option maxRecDepth 100000 in
theorem toStringS_any (A : Option Addr) (n c : Nat) (l : List (List UInt8)) (W : World) (hn : n = l.length) (hm : n ≤ 1048576) (hi : TxIn W W.heap.size A l) :
    Calls Try.prog 13 #[.slice A n c] W (Txs l W) := by
  obtain ⟨i0, hi0, hz0, hz1, hz2⟩ := info_parts info_str
  have HK := @Lib.hid _ (fun w' v n base => @txs_mk l W w' v n base)
  have hmk := run_make (P := Try.prog) W 26 9 i0 (.string ⟨#[]⟩) Try.underlying26 hi0 hz0 .i64 .i64 (n : Int) (n : Int) (by omega) (by omega) (by rw [hz2]; omega) (by omega)
  rw [hz1] at hmk
  simp only [Int.toNat_natCast, Nat.mul_one] at hmk
  have HR : Hid (CS W n l (.int .i64 0) (W.alloc (.cells (madeCells (Value.string ⟨#[]⟩).cells n) 9))) := by
    refine ⟨0, Nat.zero_le _, rfl, below_box W _, ?_⟩
    have := World.ownsRow_lit (base := W.heap.size) (e := 9) (size := 1) W (madeCells (Value.string ⟨#[]⟩).cells n) n (Nat.le_refl _) (by unfold maxLen; omega) (by rw [size_madeCells]; omega)
    rw [made_str] at this
    simpa using this
  have HI := Lib.hid hi
  have hn' : l.length = n := hn.symm
  clear hi hn
  go_enter Try.func13, Try.ntmps13
  go_wp2_with fail
  clear hmk
  go_loopw [4] (fun u4 wr => CS W n l u4 wr) (fun u4 _ => n - (intOf u4).toNat)
  case atStart => exact HR.out
  case round =>
    obtain ⟨k, hk, rfl, hb0, ho0⟩ := hrel
    have hbl := Lib.hid hb0
    have ho := Lib.hid ho0
    have hlt : W.heap.size < wr.heap.size := own_lt ho0 _ rfl
    clear hb0 ho0 HR
    by_cases hkn : k < n
    · have hu := List.getElem?_eq_getElem (show k < l.length by omega)
      generalize l[k] = u at hu
      have hiw : TxIn wr W.heap.size A l := HI.out.below hbl.out
      obtain ⟨ad, rfl, hab⟩ := hiw.at (by intro e; rw [e] at hu; cases hu)
      have hcell := hiw.cell hu
      have HN := Lib.hid (cs_step hkn hn'.symm hu hbl.out ho.out)
      have hfz := ho.out.frozenAt k
      have hcw := ho.out.cellAt k (by omega)
      have hold : (scells (l.take k ++ List.replicate (n - k) []))[k]? = some (.string ⟨#[]⟩) := by
        have hl : (l.take k).length = k := by rw [List.length_take]; omega
        unfold scells
        rw [List.getElem?_map, List.getElem?_append_right (by omega), hl, Nat.sub_self, List.getElem?_replicate, if_pos (by omega)]
        rfl
      rw [hold] at hcw
      have hk0 : (0 : Int) ≤ (k : Int) := Int.natCast_nonneg _
      have hk1 : (k : Int) < (n : Int) := by omega
      clear hold hu hiw
      go_wp2_with fail
      go_roundw
      case rel => exact HN.out
      case measure => simp [intOf]; omega
    · obtain rfl : k = n := by omega
      have ho2 := ho.out
      rw [Nat.sub_self, List.replicate_zero, List.append_nil, List.take_of_length_le (by omega)] at ho2
      have HO2 := Lib.hid ho2
      clear ho2 ho
      go_wp2_with fail
      go_ret
      exact HK.out _ _ _ _ hn'.symm HO2.out (Nat.le_refl _) hbl.out

set_option maxRecDepth 100000 in
theorem szStringS_any (A : Option Addr) (n c : Nat) (l : List (List UInt8)) (m : Nat) (W : World) (hn : l.length = n) (hm : n ≤ maxLen) (hs : ∀ u ∈ l, u.length ≤ maxLen) (hmm : m ≤ 1048576) (hi : TxIn W W.heap.size A l) :
    Calls Try.prog 11 #[.slice A n c, .int .i64 m] W fun e w' => ∃ r : Int, e = .returned (.int .i64 r) ∧ Below W.heap.size W w' ∧ (r < 0 ∨ (0 ≤ r ∧ n ≤ m ∧ ∀ u ∈ l, u.length ≤ m)) := by
  have HR := Lib.hid (Below.refl W.heap.size W)
  have HI := Lib.hid hi
  have HS := Lib.hid hs
  have Hn := Lib.hid hn
  have hm' := hm
  unfold maxLen at hm'
  clear hi hs hn
  by_cases hnm : n ≤ m
  · have hd0 : decide ((m : Int) - (n : Int) < 0) = false := by simp; omega
    go_enter Try.func11, Try.ntmps11
    go_wp2_with fail
    go_loopw [1, 5] (fun u1 u5 wr => ∃ j r : Nat, j ≤ n ∧ r ≤ m ∧ u1 = .int .i64 r ∧ u5 = .int .i64 j ∧ (∀ u ∈ l.take j, u.length ≤ m) ∧ wr = W) (fun _ u5 _ => n - (intOf u5).toNat)
    case atStart => exact ⟨0, m - n, Nat.zero_le _, by omega, by rw [show (((m - n : Nat)) : Int) = (m : Int) - (n : Int) by omega], rfl, fun u hu => by simp at hu, rfl⟩
    case round =>
      clear hd0
      obtain ⟨j, r, hj, hr, rfl, rfl, hall, rfl⟩ := hrel
      have HA := Lib.hid hall
      clear hall
      by_cases hjn : j < n
      · have hu : l[j]? = some (l[j]'(by have := Hn.out; omega)) := List.getElem?_eq_getElem (by have := Hn.out; omega)
        generalize l[j]'(by have := Hn.out; omega) = u at hu
        obtain ⟨ad, rfl, hab⟩ := HI.out.at (by intro e; rw [e] at hu; cases hu)
        obtain ⟨s, hsu⟩ : ∃ s : ByteArray, s = ⟨u.toArray⟩ := ⟨_, rfl⟩
        have hcell := HI.out.cell hu
        rw [← hsu] at hcell
        have hsz : s.size = u.length := by rw [hsu]; rfl
        have hul := HS.out u (List.mem_of_getElem? hu)
        unfold maxLen at hul
        have Ht : Hid (u.length ≤ m → ∀ v ∈ l.take (j + 1), v.length ≤ m) := Lib.hid (fun h v hv => by
          rw [List.take_add_one, hu] at hv
          rcases List.mem_append.1 hv with e | e
          · exact HA.out v e
          · have : v = u := by simpa using e
            rw [this]; exact h)
        have hk0 : (0 : Int) ≤ (j : Int) := Int.natCast_nonneg _
        have hk1 : (j : Int) < (n : Int) := by omega
        clear hu hsu
        by_cases hle : u.length ≤ r
        · have hd1 : decide ((r : Int) - (s.size : Int) < 0) = false := by simp; omega
          go_wp2_with fail
          go_roundw
          case rel => exact ⟨j + 1, r - u.length, by omega, by omega, by rw [show (((r - u.length : Nat)) : Int) = (r : Int) - (u.length : Int) by omega], by go_num, Ht.out (by omega), trivial⟩
          case measure => simp [intOf]; omega
        · have hd1 : decide ((r : Int) - (s.size : Int) < 0) = true := by simp; omega
          go_wp2_with fail
          go_ret
          exact ⟨-1, rfl, HR.out, .inl (by omega)⟩
      · obtain rfl : j = n := by omega
        go_wp2_with fail
        go_ret
        exact ⟨r, rfl, HR.out, .inr ⟨by omega, hnm, fun u hu => HA.out u (by rw [List.take_of_length_le (by have := Hn.out; omega)]; exact hu)⟩⟩
  · have hd0 : decide ((m : Int) - (n : Int) < 0) = true := by simp; omega
    go_enter Try.func11, Try.ntmps11
    go_wp2_with fail
    go_ret
    exact ⟨-1, rfl, HR.out, .inl (by omega)⟩

section
variable {H : Type} {enc : TypeId × Value → H} {P : Program}
open Go.Deep in
/-- Texts that come in. -/
theorem open_strS {t e : TypeId} (ht : P.underlying t = some (.slice e)) (he : P.underlying e = some .string) (hc : P.cellsOf e = 1) {W : World} {base : Nat} {v : Value} {d : DataW H} {ps : List MemPlace}
    (hval : Value.okWide P W .any base t v) (h : DataW.Trod enc P W 0 (fun _ => true) true t v d ps) (hlt : ∀ x ∈ ps, x.block < W.heap.size) :
    ∃ A c l, v = .slice A l.length c ∧ l.length ≤ maxLen ∧ (∀ u ∈ l, u.length ≤ maxLen) ∧ TxIn W W.heap.size A l := by
  obtain ⟨A, n, c, rfl⟩ := okWide_slice ht hval
  obtain ⟨fuel, hf⟩ := h
  rcases open_strs ht he hc hf with ⟨hcs, _⟩ | ⟨a, len', cap', m, Sx, hcs, _, hl, hm, hmm, hx, hcell⟩
  · simp [Value.cells] at hcs
    obtain ⟨rfl, rfl, rfl⟩ := hcs
    exact ⟨none, 0, [], rfl, Nat.zero_le _, fun u hu => by simp at hu, fun h0 => absurd rfl h0⟩
  · simp [Value.cells] at hcs
    obtain ⟨rfl, rfl, rfl⟩ := hcs
    simp only [if_true] at hmm
    subst hmm
    simp only [Prod.mk.injEq] at hx
    obtain ⟨-, rfl⟩ := hx
    refine ⟨some a, m, (List.range n).map fun i => (Sx i).data.toList, by simp, ?_, fun u hu => ?_, fun h0 => ⟨a, rfl, ?_, fun j u hj => ?_⟩⟩
    · simp; omega
    · obtain ⟨i, hi, rfl⟩ := List.mem_map.1 hu
      have := (hcell i (by have := List.mem_range.1 hi; omega)).2
      simpa using this
    · have hn0 : 0 < n := by
        rcases Nat.eq_zero_or_pos n with e | e
        · subst e; simp at h0
        · exact e
      obtain ⟨b, off, spot⟩ := a
      exact hlt (.cell b off) (MemPlace.mem_row.2 ⟨0, by omega, by simp⟩)
    · obtain ⟨hj1, hj2⟩ := List.getElem?_eq_some_iff.1 hj
      simp at hj1 hj2
      rw [(hcell j (by omega)).1, ← hj2]
end
end Go.Proofs.Ytmmdngfhfceefaa.strL
