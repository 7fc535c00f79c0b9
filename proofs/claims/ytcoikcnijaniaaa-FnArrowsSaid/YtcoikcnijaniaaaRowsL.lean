/- The laws' own helpers over lists of lists of integers: equal, copied, measured, marked, held. -/
import Derived.Test.YtcoikcnijaniaaaRowsP
namespace Go.Proofs.Ytcoikcnijaniaaa.rowsL
open Go.ChangeShapes Go.WideShapes Go.ChangeAt Go.RowKit
open draw gridC mazeC intsP reachD intA intK listK rowsP
set_option linter.unusedVariables false

theorem cellsRow : Try.prog.cellsOf 32 = 1 := by kernel_rfl

theorem bl_true {w w' : World} (h : Below w.heap.size w w') : Bl true w (.returned (.bool true)) w' := ⟨rfl, h⟩

set_option maxRecDepth 100000 in
theorem eq_b (va vb : Value) (ba bb ta tb n : Nat) (ls : List (List Int)) (w : World) (hx : ls.length = n) (hn : n ≤ 2000000) (hl : ∀ l ∈ ls, l.length ≤ 2000000) (ha : MxOw w ba ta va ls) (hb : MxOw w bb tb vb ls) :
    Calls Try.prog 35 #[va, vb] w fun e w' => e = .returned (.bool true) ∧ Below w.heap.size w w' := by
  obtain ⟨Aa, ca, rfl⟩ := ha.form
  obtain ⟨Ab, cb, rfl⟩ := hb.form
  subst hx
  have HA := Lib.hid ha
  have HB := Lib.hid hb
  have HL := Lib.hid hl
  have HR := Lib.hid (Below.refl w.heap.size w)
  have HK := @Lib.hid _ (fun w' h => @bl_true w w' h)
  have Hn : ∃ n, Hid (ls.length = n) := ⟨_, rfl⟩
  obtain ⟨n, Hn⟩ := Hn
  rw [Hn.out] at hn ⊢
  rw [Hn.out] at HA HB
  clear ha hb hl
  have hnn : ((n : Int) != (n : Int)) = false := by simp
  go_enter Try.func35, Try.ntmps35
  go_wp2_with fail
  go_loopw [5] (fun u5 wr => ∃ k : Nat, k ≤ n ∧ u5 = .int .i64 k ∧ Below w.heap.size w wr) (fun u5 _ => n - (intOf u5).toNat)
  case atStart => exact ⟨0, Nat.zero_le _, rfl, HR.out⟩
  case round =>
    obtain ⟨k, hk, rfl, hb0⟩ := hrel
    have hbl := Lib.hid hb0
    clear hb0 HR
    have hk0 : (0 : Int) ≤ (k : Int) := Int.natCast_nonneg _
    by_cases hkn : k < n
    · have hk1 : (k : Int) < (n : Int) := by omega
      obtain ⟨l, hl⟩ : ∃ l, ls[k]? = some l := ⟨ls[k]'(by have := Hn.out; omega), List.getElem?_eq_getElem (by have := Hn.out; omega)⟩
      have hll := HL.out l (List.mem_of_getElem? hl)
      have haw := HA.out.call hbl.out
      have hbw := HB.out.call hbl.out
      obtain ⟨-, ga, rfl, -, -, hga, A1, c1, ea, ra, -⟩ := haw.row hl
      obtain ⟨-, gb, rfl, -, -, hgb, A2, c2, eb, rb, -⟩ := hbw.row hl
      have HE := Lib.hid (fun X (hX : Below wr.heap.size wr X) => intK.eq_b (.slice A1 l.length c1) (.slice A2 l.length c2) _ _ l.length l X rfl hll (own_call ra hX) (own_call rb hX))
      clear hl haw hbw ra rb
      generalize l.length = m at *
      have hxx : (true && true) = true := rfl
      go_wp2_with fail
      try simp only [List.cons_append, List.nil_append, List.append_eq]
      refine wp_region_held_drew (S := (fun w' => w'.cell? ⟨ga, k, none⟩ = some (.slice A1 m c1) ∧ w'.cell? ⟨gb, k, none⟩ = some (.slice A2 m c2))) (by kernel_rfl) ?_ (fun hHeld0 => ?_)
      · (try dsimp only); go_keep
      refine wpAnyH_take (i := 0) (oi := { dst := some 17, op := Go.Op.move (Go.Operand.tmp 0), type := 37, pos := "exact.go:313", after := #[], guard := none }) (v := ?_) rfl (by kernel_rfl) (by kernel_rfl) (by kernel_rfl) (fun _ _ _ h => h) (Or.inl ⟨by rfl, ?_⟩) (by assumption) ?_
      rotate_left
      · (intro w hSw; (try dsimp only at hSw); go_simp; try with_reducible rfl)
      try simp only [Act.put, List.setIfInBounds_toArray, List.set_cons_zero, List.set_cons_succ]
      refine wpAnyH_take (i := 1) (oi := { dst := some 18, op := Go.Op.move (Go.Operand.tmp 5), type := 3, pos := "exact.go:313", after := #[], guard := none }) (v := ?_) rfl (by kernel_rfl) (by kernel_rfl) (by kernel_rfl) (fun _ _ _ h => h) (Or.inl ⟨by rfl, ?_⟩) (by assumption) ?_
      rotate_left
      · (intro w hSw; (try dsimp only at hSw); go_simp; try with_reducible rfl)
      try simp only [Act.put, List.setIfInBounds_toArray, List.set_cons_zero, List.set_cons_succ]
      refine wpAnyH_take (i := 2) (oi := { dst := some 19, op := Go.Op.indexAddr 37 (Go.Operand.tmp 17) (Go.Operand.tmp 18), type := 0, pos := "exact.go:313", after := #[{ on := 0, ground := Go.Ground.data }, { on := 1, ground := Go.Ground.data }], guard := none }) (v := ?_) rfl (by kernel_rfl) (by kernel_rfl) (by kernel_rfl) (fun _ _ _ h => h) (Or.inl ⟨by rfl, ?_⟩) (by assumption) ?_
      rotate_left
      · (intro w hSw; (try dsimp only at hSw); go_simp; try with_reducible rfl)
      try simp only [Act.put, List.setIfInBounds_toArray, List.set_cons_zero, List.set_cons_succ]
      refine wpAnyH_take (i := 3) (oi := { dst := some 20, op := Go.Op.load 32 (Go.Operand.tmp 19), type := 32, pos := "exact.go:313", after := #[{ on := 2, ground := Go.Ground.data }], guard := none }) (v := ?_) rfl (by kernel_rfl) (by kernel_rfl) (by kernel_rfl) (fun _ _ _ h => h) (Or.inl ⟨by rfl, ?_⟩) (by assumption) ?_
      rotate_left
      · (intro w hSw; (try dsimp only at hSw); go_simp; try with_reducible rfl)
      try simp only [Act.put, List.setIfInBounds_toArray, List.set_cons_zero, List.set_cons_succ]
      refine wpAnyH_take (i := 4) (oi := { dst := some 21, op := Go.Op.move (Go.Operand.tmp 1), type := 37, pos := "exact.go:313", after := #[], guard := none }) (v := ?_) rfl (by kernel_rfl) (by kernel_rfl) (by kernel_rfl) (fun _ _ _ h => h) (Or.inl ⟨by rfl, ?_⟩) (by assumption) ?_
      rotate_left
      · (intro w hSw; (try dsimp only at hSw); go_simp; try with_reducible rfl)
      try simp only [Act.put, List.setIfInBounds_toArray, List.set_cons_zero, List.set_cons_succ]
      refine wpAnyH_take (i := 5) (oi := { dst := some 22, op := Go.Op.move (Go.Operand.tmp 5), type := 3, pos := "exact.go:313", after := #[], guard := none }) (v := ?_) rfl (by kernel_rfl) (by kernel_rfl) (by kernel_rfl) (fun _ _ _ h => h) (Or.inl ⟨by rfl, ?_⟩) (by assumption) ?_
      rotate_left
      · (intro w hSw; (try dsimp only at hSw); go_simp; try with_reducible rfl)
      try simp only [Act.put, List.setIfInBounds_toArray, List.set_cons_zero, List.set_cons_succ]
      refine wpAnyH_take (i := 6) (oi := { dst := some 23, op := Go.Op.indexAddr 37 (Go.Operand.tmp 21) (Go.Operand.tmp 22), type := 0, pos := "exact.go:313", after := #[{ on := 4, ground := Go.Ground.data }, { on := 5, ground := Go.Ground.data }], guard := none }) (v := ?_) rfl (by kernel_rfl) (by kernel_rfl) (by kernel_rfl) (fun _ _ _ h => h) (Or.inl ⟨by rfl, ?_⟩) (by assumption) ?_
      rotate_left
      · (intro w hSw; (try dsimp only at hSw); go_simp; try with_reducible rfl)
      try simp only [Act.put, List.setIfInBounds_toArray, List.set_cons_zero, List.set_cons_succ]
      refine wpAnyH_take (i := 7) (oi := { dst := some 24, op := Go.Op.load 32 (Go.Operand.tmp 23), type := 32, pos := "exact.go:313", after := #[{ on := 6, ground := Go.Ground.data }], guard := none }) (v := ?_) rfl (by kernel_rfl) (by kernel_rfl) (by kernel_rfl) (fun _ _ _ h => h) (Or.inl ⟨by rfl, ?_⟩) (by assumption) ?_
      rotate_left
      · (intro w hSw; (try dsimp only at hSw); go_simp; try with_reducible rfl)
      try simp only [Act.put, List.setIfInBounds_toArray, List.set_cons_zero, List.set_cons_succ]
      refine wpAnyH_ready (rs := [8]) (by kernel_rfl) (by simp) ?_
      refine AllReadyH.cons (o := { dst := some 25, op := Go.Op.call { callee := Go.Callee.value (Go.Operand.func 30), args := #[Go.Operand.tmp 20, Go.Operand.tmp 24], argTypes := #[32, 32] }, type := 4, pos := "exact.go:313", after := #[{ on := 3, ground := Go.Ground.data }, { on := 7, ground := Go.Ground.data }], guard := none }) rfl (fun K8 hK8 => ?_) AllReadyH.nil
      go_simp
      (refine (HE.out _ (below_draws (Below.refl _ _) 1)).mono ?_; rintro e v1 ⟨rfl, hb1⟩; have hbl1 := Lib.hid (below_call (below_draws hbl.out 1) hb1); have ea1 := (hb1.cell (p := ⟨ga, k, none⟩) hga).trans ea; have eb1 := (hb1.cell (p := ⟨gb, k, none⟩) hgb).trans eb)
      go_wp2_with fail
      refine hK8.out _ _ ?_ (fun hHeld1 => ?_)
      · (try dsimp only); go_keep
      clear hK8 K8 hHeld0
      try simp only [Act.put, List.setIfInBounds_toArray, List.set_cons_zero, List.set_cons_succ]
      refine wpAnyH_take (i := 9) (oi := { dst := some 26, op := Go.Op.unOp Go.UnOp.not 4 (Go.Operand.tmp 25), type := 4, pos := "exact.go:313", after := #[{ on := 8, ground := Go.Ground.data }], guard := none }) (v := ?_) rfl (by kernel_rfl) (by kernel_rfl) (by kernel_rfl) (fun _ _ _ h => h) (Or.inl ⟨by rfl, ?_⟩) (by assumption) ?_
      rotate_left
      · (intro w hSw; (try dsimp only at hSw); go_simp; try with_reducible rfl)
      try simp only [Act.put, List.setIfInBounds_toArray, List.set_cons_zero, List.set_cons_succ]
      refine wpAnyH_done (by kernel_rfl) ?_ _
      all_goals go_wp2_with fail
      all_goals go_roundw
      case rel => exact ⟨k + 1, by omega, by go_num, hbl1.out⟩
      case measure => simp [intOf]; omega
    · obtain rfl : k = n := by omega
      go_wp2_with fail
      go_ret
      exact HK.out _ hbl.out

/-- While rows are copied. -/
def RT (W : World) (n : Nat) (ls : List (List Int)) (k : Nat) (X : World) : Prop := Below W.heap.size W X ∧ MxOw X W.heap.size X.heap.size (.slice (some ⟨W.heap.size, 0, none⟩) n n) (ls.take k ++ List.replicate (n - k) [])
theorem rt_step {W X X' : World} {n k : Nat} {ls : List (List Int)} {l : List Int} {r : Value} (h : RT W n ls k X) (hn : n = ls.length) (hl : ls[k]? = some l) (hr : X'.ownsRow X.heap.size 3 1 r l.length (icells l)) (hb : Below X.heap.size X X') :
    RT W n ls (k + 1) (X'.setCell ⟨W.heap.size, k, none⟩ r) := by
  have hk : k < ls.length := (List.getElem?_eq_some_iff.1 hl).1
  obtain ⟨h1, h2⟩ := h
  have hlt : W.heap.size < X.heap.size := by
    obtain ⟨cs, -, h3, -⟩ := h2
    exact h3 _ rfl
  have e : (ls.take k ++ List.replicate (n - k) []).set k l = ls.take (k + 1) ++ List.replicate (n - (k + 1)) [] := by
    have e1 : (ls.take k).length = k := by rw [List.length_take]; omega
    have e2 : List.replicate (n - k) ([] : List Int) = [] :: List.replicate (n - (k + 1)) [] := by rw [show n - k = (n - (k + 1)) + 1 by omega]; rfl
    rw [List.set_append_right _ _ (by omega), e1, Nat.sub_self, e2, List.set_cons_zero, List.take_add_one, hl]
    simp
  refine ⟨(below_call h1 hb).setCell (Nat.le_refl _) _, ?_⟩
  have h3 := (h2.call hb).take (t' := X'.heap.size) (i := k) (r := r) (l := l) (by simp; omega) hb.size (own_base hr h1.size) (fun q e => ⟨(hr.lt q e).1, (hr.lt q e).2⟩)
  rw [e] at h3
  have e3 : (X'.setCell ⟨W.heap.size, k, none⟩ r).heap.size = X'.heap.size := by simp [World.setCell]
  rw [e3]; exact h3
theorem rt_cell {W X : World} {n k : Nat} {ls : List (List Int)} (h : RT W n ls k X) (hn : n = ls.length) (hk : k < n) : (∃ old, X.cell? ⟨W.heap.size, k, none⟩ = some old) ∧ X.frozen? ⟨W.heap.size, k, none⟩ = false := by
  obtain ⟨-, cs, h1, -⟩ := h
  have e : (ls.take k ++ List.replicate (n - k) ([] : List Int)).length = n := by simp; omega
  rw [e] at h1
  have := h1.1
  exact ⟨⟨_, (h1.cellAt k (by omega)).trans (List.getElem?_eq_getElem (by omega))⟩, h1.frozenAt k⟩
theorem RT.call {W X X' : World} {n k : Nat} {ls : List (List Int)} (h : RT W n ls k X) (hb : Below X.heap.size X X') : RT W n ls k X' := ⟨below_call h.1 hb, h.2.grow hb⟩

set_option maxRecDepth 100000 in
theorem toIntSS_any (A : Option Addr) (n c : Nat) (ls : List (List Int)) (W : World) (hn : n = ls.length) (hm : n ≤ 1048576) (hl : ∀ l ∈ ls, l.length ≤ 1048576) (hi : MxIn W W.heap.size A ls) :
    Calls Try.prog 34 #[.slice A n c] W (Mtx ls W) := by
  obtain ⟨i0, hi0, hz0, hz1, hz2⟩ := info_parts info_row
  have HK := @Lib.hid _ (fun w' v b t => @mtx_mk ls W w' v b t)
  have hmk := run_make (P := Try.prog) W 37 32 i0 (.slice none 0 0) Try.underlying37 hi0 hz0 .i64 .i64 (n : Int) (n : Int) (by omega) (by omega) (by rw [hz2]; omega) (by omega)
  rw [hz1] at hmk
  simp only [Int.toNat_natCast, Nat.mul_one] at hmk
  have HR : Hid (RT W n ls 0 (W.alloc (.cells (madeCells (Value.slice none 0 0).cells n) 32))) := by
    refine ⟨below_box W _, ?_⟩
    have := mx_made (X := W) (Nat.le_refl _) n (by unfold maxLen; omega)
    simpa using this
  have HI := Lib.hid hi
  have HL := Lib.hid hl
  have Hn := Lib.hid hn
  clear hi hn hl
  go_enter Try.func34, Try.ntmps34
  go_wp2_with fail
  clear hmk
  go_loopw [4] (fun u4 wr => ∃ k : Nat, k ≤ n ∧ u4 = .int .i64 k ∧ RT W n ls k wr) (fun u4 _ => n - (intOf u4).toNat)
  case atStart => exact ⟨0, Nat.zero_le _, rfl, HR.out⟩
  case round =>
    obtain ⟨k, hk, rfl, hr0⟩ := hrel
    have hrt := Lib.hid hr0
    clear hr0 HR
    have hk0 : (0 : Int) ≤ (k : Int) := Int.natCast_nonneg _
    by_cases hkn : k < n
    · have hk1 : (k : Int) < (n : Int) := by omega
      obtain ⟨l, hl⟩ : ∃ l, ls[k]? = some l := ⟨ls[k]'(by have := Hn.out; omega), List.getElem?_eq_getElem (by have := Hn.out; omega)⟩
      have hll := HL.out l (List.mem_of_getElem? hl)
      obtain ⟨ad, rfl, hab, A1, c1, ea, ra⟩ := mx_cell (HI.out.below hrt.out.1) hl
      have HT := Lib.hid (toIntS_any A1 l.length c1 l wr rfl hll (ra.more hrt.out.1.size))
      have HS := Lib.hid (fun X r hr hb => @rt_step W wr X n k ls l r hrt.out Hn.out hl hr hb)
      have HC := Lib.hid (fun X (hb : Below wr.heap.size wr X) => rt_cell (hrt.out.call hb) Hn.out hkn)
      clear hl ra
      go_wp2_with fail
      refine HT.out.mono ?_
      rintro e w1 ⟨r, rfl, hr, hb⟩
      obtain ⟨⟨old, hcell⟩, hfz⟩ := HC.out w1 hb
      have hnx := Lib.hid (HS.out w1 r hr hb)
      obtain ⟨A2, c2, rfl⟩ := intsP.own_form hr
      clear hr hb HS HC HT hrt
      go_wp2_with fail
      go_roundw
      case rel => exact ⟨k + 1, by omega, by go_num, hnx.out⟩
      case measure => simp [intOf]; omega
    · obtain rfl : k = n := by omega
      have hx := hrt.out.2
      rw [Nat.sub_self, List.replicate_zero, List.append_nil, List.take_of_length_le (by have := Hn.out; omega)] at hx
      have HX := Lib.hid hx
      clear hx
      go_wp2_with fail
      go_ret
      exact HK.out _ _ _ _ HX.out (Nat.le_refl _) (Nat.le_refl _) hrt.out.1

/-- How many numbers there are. -/
def toN (ls : List (List Int)) : Nat := (ls.map List.length).sum
theorem toN_take {ls : List (List Int)} {j : Nat} {l : List Int} (h : ls[j]? = some l) : toN (ls.take (j + 1)) = toN (ls.take j) + l.length := by
  unfold toN
  rw [List.take_add_one, h]; simp
theorem len_toN : ∀ {ls : List (List Int)} {l : List Int}, l ∈ ls → l.length ≤ toN ls
  | m :: ls, l, h => by
    show _ ≤ toN (m :: ls)
    have e : toN (m :: ls) = m.length + toN ls := by simp [toN]
    rcases List.mem_cons.1 h with rfl | h
    · omega
    · have := len_toN h; omega
theorem toN_bd : ∀ {ls : List (List Int)} {B : Nat}, (∀ l ∈ ls, l.length ≤ B) → toN ls ≤ ls.length * B
  | [], B, h => by simp [toN]
  | m :: ls, B, h => by
    have e : toN (m :: ls) = m.length + toN ls := by simp [toN]
    have h1 := toN_bd (ls := ls) (B := B) fun l hl => h l (List.mem_cons_of_mem _ hl)
    have h2 := h m List.mem_cons_self
    rw [e, List.length_cons, Nat.succ_mul]; omega
theorem toN_le (ls : List (List Int)) (j : Nat) : toN (ls.take j) ≤ toN ls := by
  have : toN ls = toN (ls.take j) + toN (ls.drop j) := by
    unfold toN
    rw [← List.sum_append, ← List.map_append, List.take_append_drop]
  omega

set_option maxRecDepth 100000 in
theorem szIntS_any (v : Value) (A : Option Addr) (n c m : Nat) (w : World) (hv : v = .slice A n c) (hn : n ≤ maxLen) (hm : m ≤ 1048576) :
    Calls Try.prog 71 #[v, .int .i64 m] w fun e w' => e = .returned (.int .i64 (if n ≤ m then ((m - n : Nat) : Int) else -1)) ∧ w = w' := by
  subst hv
  unfold maxLen at hn
  by_cases h : n ≤ m
  · have hd : decide ((m : Int) - (n : Int) < 0) = false := by simp; omega
    have HE : Hid ((m : Int) - (n : Int) = ((m - n : Nat) : Int)) := Lib.hid (by omega)
    rw [if_pos h]
    go_enter Try.func71, Try.ntmps71
    go_wp2_with fail
    go_ret
    exact ⟨congrArg (fun z => Ending.returned (.int .i64 z)) HE.out, rfl⟩
  · have hd : decide ((m : Int) - (n : Int) < 0) = true := by simp; omega
    rw [if_neg h]
    go_enter Try.func71, Try.ntmps71
    go_wp2_with fail
    go_ret
    exact ⟨rfl, rfl⟩

set_option maxRecDepth 100000 in
theorem szIntSS_any (A : Option Addr) (n c : Nat) (ls : List (List Int)) (m : Nat) (W : World) (hn : ls.length = n) (hm : n ≤ maxLen) (hs : ∀ l ∈ ls, l.length ≤ maxLen) (hmm : m ≤ 1048576) (hi : MxIn W W.heap.size A ls) :
    Calls Try.prog 31 #[.slice A n c, .int .i64 m] W fun e w' => ∃ r : Int, e = .returned (.int .i64 r) ∧ Below W.heap.size W w' ∧ (r < 0 ∨ (0 ≤ r ∧ n + toN ls ≤ m)) := by
  have HR := Lib.hid (Below.refl W.heap.size W)
  have HI := Lib.hid hi
  have HS := Lib.hid hs
  have Hn := Lib.hid hn
  have hm' := hm
  unfold maxLen at hm'
  clear hi hs hn
  by_cases hnm : n ≤ m
  · have hd0 : decide ((m : Int) - (n : Int) < 0) = false := by simp; omega
    go_enter Try.func31, Try.ntmps31
    go_wp2_with fail
    go_loopw [1, 5] (fun u1 u5 wr => ∃ j r : Nat, j ≤ n ∧ r + n + toN (ls.take j) = m ∧ u1 = .int .i64 r ∧ u5 = .int .i64 j ∧ wr = W) (fun _ u5 _ => n - (intOf u5).toNat)
    case atStart => exact ⟨0, m - n, Nat.zero_le _, by simp [toN, hnm], by rw [show (((m - n : Nat)) : Int) = (m : Int) - (n : Int) by omega], rfl, rfl⟩
    case round =>
      clear hd0
      obtain ⟨j, r, hj, hr, rfl, rfl, rfl⟩ := hrel
      have hk0 : (0 : Int) ≤ (j : Int) := Int.natCast_nonneg _
      by_cases hjn : j < n
      · have hk1 : (j : Int) < (n : Int) := by omega
        obtain ⟨l, hl⟩ : ∃ l, ls[j]? = some l := ⟨ls[j]'(by have := Hn.out; omega), List.getElem?_eq_getElem (by have := Hn.out; omega)⟩
        have hll := HS.out l (List.mem_of_getElem? hl)
        obtain ⟨ad, rfl, hab, A1, c1, ea, -⟩ := mx_cell HI.out hl
        have ht := toN_take hl
        have HZ := Lib.hid (fun X => szIntS_any (.slice A1 l.length c1) A1 l.length c1 r X rfl hll (by omega))
        clear hl
        generalize l.length = q at *
        by_cases hle : q ≤ r
        · rw [if_pos hle] at HZ
          have hd1 : decide (((r - q : Nat) : Int) < 0) = false := decide_eq_false (by omega)
          have h1 : r - q + n + toN (ls.take (j + 1)) = m := by omega
          clear ht
          generalize r - q = r' at *
          go_wp2_with fail
          refine (HZ.out _).mono ?_
          rintro e w1 ⟨rfl, rfl⟩
          go_wp2_with fail
          go_roundw
          case rel => exact ⟨j + 1, r', by omega, h1, rfl, by go_num, trivial⟩
          case measure => simp [intOf]; omega
        · rw [if_neg hle] at HZ
          go_wp2_with fail
          refine (HZ.out _).mono ?_
          rintro e w1 ⟨rfl, rfl⟩
          go_wp2_with fail
          go_ret
          exact ⟨-1, rfl, HR.out, .inl (by omega)⟩
      · obtain rfl : j = n := by omega
        rw [List.take_of_length_le (by have := Hn.out; omega)] at hr
        go_wp2_with fail
        go_ret
        exact ⟨r, rfl, HR.out, .inr ⟨by omega, by omega⟩⟩
  · have hd0 : decide ((m : Int) - (n : Int) < 0) = true := by simp; omega
    go_enter Try.func31, Try.ntmps31
    go_wp2_with fail
    go_ret
    exact ⟨-1, rfl, HR.out, .inl (by omega)⟩

/-- Rows with the marks from m on. -/
def mkM : Nat → List (List Int) → List (List Int)
  | _, [] => []
  | m, l :: ls => ((List.range l.length).map fun j => ((m + j : Nat) : Int)) :: mkM (m + l.length) ls
theorem mkM_len : ∀ (m : Nat) (ls : List (List Int)), (mkM m ls).length = ls.length
  | _, [] => rfl
  | m, l :: ls => by simp [mkM, mkM_len (m + l.length) ls]
theorem marks_icells (m n : Nat) : marks m n = icells ((List.range n).map fun j => ((m + j : Nat) : Int)) := by simp [marks, icells]
/-- One more row is marked. -/
theorem mkM_step : ∀ {ls : List (List Int)} {m j : Nat} {l : List Int}, ls[j]? = some l → (mkM m (ls.take j) ++ ls.drop j).set j ((List.range l.length).map fun i => ((m + toN (ls.take j) + i : Nat) : Int)) = mkM m (ls.take (j + 1)) ++ ls.drop (j + 1)
  | [], m, j, l, h => by simp at h
  | a :: ls, m, 0, l, h => by
    obtain rfl : a = l := by simpa using h
    simp [mkM, toN]
  | a :: ls, m, j + 1, l, h => by
    have h' : ls[j]? = some l := by simpa using h
    have ih := mkM_step (m := m + a.length) h'
    simp only [List.take_succ_cons, List.drop_succ_cons, mkM, List.cons_append, List.set_cons_succ]
    congr 1
    rw [← ih]
    congr 2
    funext i
    simp [toN]
    omega
theorem mkM_at : ∀ {ls : List (List Int)} {m j : Nat} {l : List Int}, ls[j]? = some l → (mkM m ls)[j]? = some ((List.range l.length).map fun i => ((m + toN (ls.take j) + i : Nat) : Int))
  | [], m, j, l, h => by simp at h
  | a :: ls, m, 0, l, h => by
    obtain rfl : a = l := by simpa using h
    simp [mkM, toN]
  | a :: ls, m, j + 1, l, h => by
    have h' : ls[j]? = some l := by simpa using h
    have ih := mkM_at (m := m + a.length) h'
    simp only [mkM, List.getElem?_cons_succ, ih, List.take_succ_cons]
    congr 2
    funext i
    simp [toN]
    omega
theorem rest_at {ls : List (List Int)} {m j : Nat} {l : List Int} (h : ls[j]? = some l) : (mkM m (ls.take j) ++ ls.drop j)[j]? = some l := by
  have hj : j < ls.length := (List.getElem?_eq_some_iff.1 h).1
  have e : (mkM m (ls.take j)).length = j := by rw [mkM_len, List.length_take]; omega
  rw [List.getElem?_append_right (by omega), e, Nat.sub_self, List.getElem?_drop]
  exact h

end Go.Proofs.Ytcoikcnijaniaaa.rowsL
