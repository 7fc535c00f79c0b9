/- The contract of the model's LaplaceOf. -/
import Derived.Test.YthgnhamokikhkaaMatQ
namespace Go.Proofs.Ythgnhamokikhkaa.matR
open Go.ChangeShapes Go.WideShapes Go.ChangeAt Go.RowKit
open draw gridP gridC gridE bitP mazeP mazeC mazeM mazeR mazeS intsP reachD intA intK listK rowsP matP matM matQ
set_option linter.unusedVariables false

/-- A row of the matrix behind the first j of the ways. -/
def lrN (x y z : Int) (n k j : Nat) : List Int := ((wlZ x y z k).take j).foldl (fun r d => r.set (stZ x y z k d).toNat (-1)) ((List.replicate n 0).set k ((wlZ x y z k).length : Int))
theorem fold_set (f : Int → Nat) : ∀ (ds : List Int) (r : List Int), (ds.foldl (fun r d => r.set (f d) (-1)) r).length = r.length
  | [], r => rfl
  | d :: ds, r => by rw [List.foldl_cons, fold_set f ds, List.length_set]
theorem lr_len (x y z : Int) (n k j : Nat) : (lrN x y z n k j).length = n := by
  unfold lrN
  rw [fold_set (fun d => (stZ x y z k d).toNat), List.length_set, List.length_replicate]
theorem lr_next {x y z : Int} {n k j : Nat} {d : Int} (hd : (wlZ x y z k)[j]? = some d) : lrN x y z n k (j + 1) = (lrN x y z n k j).set (stZ x y z k d).toNat (-1) := by
  unfold lrN
  rw [List.take_add_one, hd, Option.toList_some, List.foldl_append]; rfl
theorem lr_zero (x y z : Int) (n k : Nat) : lrN x y z n k 0 = (List.replicate n 0).set k ((wlZ x y z k).length : Int) := rfl
/-- A row of the matrix. -/
def lpr (x y z : Int) (n k : Nat) : List Int := lrN x y z n k (wlZ x y z k).length
/-- The matrix of a maze. -/
def lpZ (x y z : Int) : List (List Int) := if okB x y z = true then (List.range (x * y).toNat).map (lpr x y z (x * y).toNat) else []

theorem lp_len (x y z : Int) : (lpZ x y z).length ≤ 1000 ∧ ∀ l ∈ lpZ x y z, l.length ≤ 1000 := by
  unfold lpZ
  split
  · rename_i h
    have hv : OkM x y z := of_decide_eq_true h
    obtain ⟨⟨h1, h2, h3, h4⟩, -, -⟩ := hv
    have hcc := (mul_bd x y h1 h2 h3 h4).1
    refine ⟨by simp; omega, fun l hl => ?_⟩
    obtain ⟨k, -, rfl⟩ := List.mem_map.1 hl
    unfold lpr
    rw [lr_len]; omega
  · exact ⟨by simp, fun l hl => absurd hl (by simp)⟩

/-- The row that is written, and the ways, in blocks behind those of V. -/
def LS (V : World) (n : Nat) (l ds : List Int) (v : Value) (X : World) : Prop :=
  Below V.heap.size V X ∧ X.ownsRow V.heap.size 3 1 (.slice (some ⟨V.heap.size, 0, none⟩) n n) n (icells l) ∧ X.ownsRow (V.heap.size + 1) 3 1 v ds.length (icells ds)
theorem LS.call {V X X' : World} {n : Nat} {l ds : List Int} {v : Value} (h : LS V n l ds v X) (hb : Below X.heap.size X X') : LS V n l ds v X' := ⟨below_call h.1 hb, own_call h.2.1 hb, own_call h.2.2 hb⟩
theorem LS.dr {V X : World} {n : Nat} {l ds : List Int} {v : Value} (h : LS V n l ds v X) : LS V n l ds v X.drew := h.call ⟨rfl, rfl, rfl, Nat.le_refl _, fun _ _ => rfl⟩
theorem LS.put {V X : World} {n : Nat} {l ds : List Int} {v : Value} (h : LS V n l ds v X) (s : Nat) (u : Int) : LS V n (l.set s u) ds v (X.setCell ⟨V.heap.size, s, none⟩ (.int .i64 u)) := by
  obtain ⟨h1, h2, h3⟩ := h
  obtain ⟨s1, s2⟩ := h2.stored s (.int .i64 u)
  have e : (icells l).set s (.int .i64 u) = icells (l.set s u) := by simp [icells, List.map_set]
  rw [e] at s1
  refine ⟨h1.setCell (Nat.le_refl _) _, s1, h3.kept s2 ?_⟩
  cases hv : v.ownBlock with
  | none => exact .inl rfl
  | some q =>
    refine .inr fun e => ?_
    have := (h3.lt q hv).1
    cases e
    omega
/-- The row takes its place. -/
theorem LS.app {W V X : World} {b n : Nat} {ls : List (List Int)} {l ds : List Int} {v v7 : Value} (h : ML W b ls v V) (hs : LS V n l ds v7 X) (hn : l.length = n) :
    ∃ cs : List Value, X.ownsRow b 34 1 v ls.length cs ∧ ∀ (o : Obj) (X5 : World) (gg cap : Nat), X5.ownsRow b 34 1 (.slice (some ⟨gg, 0, none⟩) (ls.length + 1) cap) (ls.length + 1) (cs ++ [.slice (some ⟨V.heap.size, 0, none⟩) n n]) → (X.alloc o).grownBy X5 v.ownBlock →
      ML W b (ls ++ [l]) (.slice (some ⟨gg, 0, none⟩) (ls.length + 1) cap) X5 ∧ Below b X X5 := by
  subst hn
  obtain ⟨b2, o3, -⟩ := hs
  obtain ⟨cs, c1, c3, c4, c5⟩ := h.parts
  have e1 := own_call c1 b2
  refine ⟨cs, e1, fun o X5 gg cap h5 hg => ?_⟩
  refine (h.call b2).app ⟨e1, fun i k hk => ?_, c4⟩ (own_base o3 h.2.2.1) (fun i c g hc hg' e => ?_) h5 hg
  · obtain ⟨c, d1, d2, d3⟩ := c3 i k hk
    exact ⟨c, d1, own_call d2 b2, fun g hg => Nat.lt_of_lt_of_le (d3 g hg) b2.size⟩
  · have := c5 i c g hc hg'
    have := (o3.lt g e).1
    omega

set_option maxRecDepth 100000 in
set_option maxHeartbeats 4000000 in
theorem laplaceOf_good (x y z : Int) (W : World) (hv : OkM x y z) :
    Calls Try.prog 118 #[.agg #[.int .i64 x, .int .i64 y, .int .i64 z]] W (Mtx (lpZ x y z) W) := by
  obtain ⟨j0, hj0, hy0, hy1, hy2⟩ := info_parts info_row
  obtain ⟨i0, hi0, hz0, hz1, hz2⟩ := info_parts info_int
  obtain ⟨⟨h1, h2, h3, h4⟩, -, -⟩ := id hv
  have hcc := (mul_bd x y h1 h2 h3 h4).1
  have HC : Hid (∀ X, Calls Try.prog 39 #[.agg #[.int .i64 x, .int .i64 y]] X (Nm (x * y) X)) := fun X => gridS.countCells_yes x y X h1 h2 h3 h4
  have HM : Hid (∀ X, Calls Try.prog 116 #[.agg #[.int .i64 x, .int .i64 y, .int .i64 z]] X (Bl true X)) := Lib.hid fun X => by
    have := ok_any x y z X
    rwa [show okB x y z = true from decide_eq_true hv] at this
  have HF := Lib.hid (fun k X => waysFrom_any x y z k X)
  have HS := Lib.hid (fun k d X => step_any x y z k d X)
  obtain ⟨n, hn⟩ := Int.eq_ofNat_of_zero_le (show 0 ≤ x * y by omega)
  have HLt : Hid (∀ k d, d ∈ wlZ x y z k → 0 ≤ stZ x y z k d ∧ stZ x y z k d < (n : Int)) := Lib.hid fun k d hd => by
    have h0 := (mazeQ.wl_mem 4 d hd).2
    refine ⟨h0, ?_⟩
    have hge := nb_ge x y k d
    unfold stZ at h0 ⊢
    split at h0
    · rename_i hp
      rw [if_pos hp]
      have := (nb_some (by omega : ¬ nbZ x y k d < 0)).2.2.2.2
      omega
    · omega
  have HEnd : Hid (∀ v w', ML W (W.heap.size + 1) ((List.range n).map (lpr x y z n)) v w' → Mtx (lpZ x y z) W (.returned v) w') := Lib.hid fun v w' h => by
    have e : lpZ x y z = (List.range n).map (lpr x y z n) := by
      unfold lpZ
      rw [if_pos (show okB x y z = true from decide_eq_true hv), hn]; simp
    rw [e]
    exact mtx_mk h.2.2.2 h.2.1 (Nat.le_refl _) h.1
  have HW4 : Hid (∀ k, (wlZ x y z k).length ≤ 4) := Lib.hid fun k => wlN_len x y z k 4
  have HX0 := Lib.hid (mbox_two x y z W 27 (.cells #[] 34))
  have hol0 : Hid (ML W (W.heap.size + 1) [] (.slice (some ⟨W.heap.size + 1, 0, none⟩) 0 0) ((W.alloc (.cells #[.int .i64 x, .int .i64 y, .int .i64 z] 27)).alloc (.cells #[] 34))) := Lib.hid (by
    have := ml_new (W := W) (X := W.alloc (.cells #[.int .i64 x, .int .i64 y, .int .i64 z] 27)) (below_box W _) (by simp)
    simpa using this)
  rw [hn] at HC hcc
  clear h1 h2 h3 h4 hn hv
  go_enter Try.func118, Try.ntmps118
  go_wp2_with fail
  refine (HC.out _).mono ?_
  rintro e w1 ⟨rfl, hb⟩
  have hol := Lib.hid (hol0.out.call hb)
  have hx := Lib.hid (HX0.out.call hb)
  clear hb hol0 HX0 HC
  go_wp2_with fail
  go_loopw [3, 5] (fun u3 u5 wr => ∃ i : Nat, i ≤ n ∧ u5 = .int .i64 i ∧ ML W (W.heap.size + 1) ((List.range i).map (lpr x y z n)) u3 wr ∧ MBox W.heap.size x y z wr) (fun _ u5 _ => n - (intOf u5).toNat)
  case atStart => exact ⟨0, Nat.zero_le _, rfl, hol.out, hx.out⟩
  case round =>
    clear hol hx
    obtain ⟨i, hi, rfl, hol1, hx1⟩ := hrel
    have hol := Lib.hid hol1
    have hx := Lib.hid hx1
    clear hol1 hx1
    obtain ⟨c0, c1, c2⟩ := hx.out.1
    have hi0' : (0 : Int) ≤ (i : Int) := Int.natCast_nonneg _
    obtain ⟨A3, c3, rfl⟩ := hol.out.form
    have hlen : ((List.range i).map (lpr x y z n)).length = i := by simp
    have hol2 : Hid (ML W (W.heap.size + 1) ((List.range i).map (lpr x y z n)) (.slice A3 i c3) wr) := Lib.hid (by have := hol.out; rw [hlen] at this; exact this)
    clear hol
    have hol := hol2
    clear hol2
    rw [hlen]
    by_cases hin : i < n
    · have hi1 : (i : Int) < (n : Int) := by omega
      have HF1 := Lib.hid (fun X => HF.out (i : Int) X)
      have HS1 := Lib.hid (fun d X => HS.out (i : Int) d X)
      have HL1 := Lib.hid (fun d hd => HLt.out (i : Int) d hd)
      have HW1 := HW4.out (i : Int)
      have HNx := Lib.hid (fun j d hd => @lr_next x y z n i j d hd)
      have HZr := Lib.hid (lr_zero x y z n i)
      have HLn := Lib.hid (fun j => lr_len x y z n i j)
      have HFin : Hid ((List.range (i + 1)).map (lpr x y z n) = (List.range i).map (lpr x y z n) ++ [lrN x y z n i (wlZ x y z i).length]) := Lib.hid (by rw [List.range_succ, List.map_append]; rfl)
      go_wp2_with fail
      refine (HM.out _).mono ?_
      rintro e w1 ⟨rfl, hb⟩
      have hol1 := Lib.hid (hol.out.call hb)
      have hx1 := Lib.hid (hx.out.call hb)
      clear hb hol hx c0 c1 c2
      obtain ⟨c0, c1, c2⟩ := hx1.out.1
      have hmk := run_make (P := Try.prog) w1 34 3 i0 (.int .i64 0) Try.underlying34 hi0 hz0 .i64 .i64 (n : Int) (n : Int) (by omega) (by omega) (by rw [hz2]; omega) (by omega)
      rw [hz1] at hmk
      simp only [Int.toNat_natCast, Nat.mul_one] at hmk
      have hmb := hx1.out.2
      go_wp2_with fail
      refine (HF1.out _).mono ?_
      rintro e w2 ⟨v7, rfl, how, hb2⟩
      have hrow0 := World.ownsRow_lit (base := w1.heap.size) (e := 3) (size := 1) w1 (madeCells (Value.int .i64 0).cells n) n (Nat.le_refl _) (by unfold maxLen; omega) (by rw [size_madeCells]; omega)
      rw [made_zero] at hrow0
      have hs0 : Hid (LS w1 n (List.replicate n 0) (wlZ x y z i) v7 w2) := Lib.hid ⟨below_call (below_box w1 _) hb2, own_call hrow0 hb2, by have h := how; simp at h; exact h⟩
      clear hrow0 how hb2 hmk hmb
      generalize wlZ x y z (i : Int) = ds at *
      obtain ⟨A7, c7, rfl⟩ := own_form hs0.out.2.2
      obtain ⟨m, hm⟩ : ∃ m, ds.length = m := ⟨_, rfl⟩
      rw [hm] at hs0 HW1 HZr HFin ⊢
      have Hm := Lib.hid hm
      clear hm
      have hcell := own_cellI hs0.out.2.1 (show (List.replicate n (0 : Int))[i]? = some 0 by rw [List.getElem?_replicate, if_pos hin])
      have hfz := hs0.out.2.1.frozenAt i
      have hs1 := Lib.hid (hs0.out.put i (m : Int))
      rw [← HZr.out] at hs1
      have HIo : Hid (∀ X l, LS w1 n l ds (.slice A7 m c7) X → IntsIn X X.heap.size A7 ds) := Lib.hid fun X l h => (ints_own (by have := h.2.2; rw [Hm.out] at this; exact this)).1
      clear hs0 HZr c0 c1 c2
      go_wp2_with fail
      clear hcell hfz
      go_loopw [8] (fun u8 wq => ∃ j : Nat, j ≤ m ∧ u8 = .int .i64 j ∧ LS w1 n (lrN x y z n i j) ds (.slice A7 m c7) wq) (fun u8 _ => m - (intOf u8).toNat)
      case atStart => exact ⟨0, Nat.zero_le _, rfl, hs1.out⟩
      case round =>
        clear hs1
        obtain ⟨j, hj, rfl, hs0⟩ := hrel
        have hs := Lib.hid hs0
        clear hs0
        have hjz : (0 : Int) ≤ (j : Int) := Int.natCast_nonneg _
        by_cases hjm : j < m
        · have hj1 : (j : Int) < (m : Int) := by omega
          obtain ⟨d, hd⟩ : ∃ d, ds[j]? = some d := ⟨ds[j]'(by have := Hm.out; omega), List.getElem?_eq_getElem (by have := Hm.out; omega)⟩
          obtain ⟨ad, rfl, hab, ez⟩ := ints_cell (HIo.out _ _ hs.out) hd
          obtain ⟨s0, s1⟩ := HL1.out d (List.mem_of_getElem? hd)
          have HE1 := Lib.hid (HNx.out j d hd)
          have HS2 := Lib.hid (fun X => HS1.out d X)
          obtain ⟨σ, hσ⟩ := Int.eq_ofNat_of_zero_le s0
          rw [hσ] at HS2 HE1 s1
          have HSa : Hid (∀ X l, LS w1 n l ds (.slice (some ad) m c7) X → X.cell? ⟨W.heap.size, 0, none⟩ = some (.int .i64 x) ∧ X.cell? ⟨W.heap.size, 1, none⟩ = some (.int .i64 y) ∧ X.cell? ⟨W.heap.size, 2, none⟩ = some (.int .i64 z) ∧ X.cell? (ad.add j) = some (.int .i64 d)) := Lib.hid fun X l h => by
            obtain ⟨b0, b1, b2⟩ := (hx1.out.call h.1).1
            obtain ⟨ad', e, -, ez'⟩ := ints_cell (HIo.out _ _ h) hd
            cases e
            exact ⟨b0, b1, b2, ez'⟩
          have HEr : Hid (∀ X, LS w1 n (lrN x y z n i j) ds (.slice (some ad) m c7) X → ∃ u, X.cell? ⟨w1.heap.size, σ, none⟩ = some (.int .i64 u) ∧ X.frozen? ⟨w1.heap.size, σ, none⟩ = false) := Lib.hid fun X h => ⟨_, own_cellI h.2.1 (List.getElem?_eq_getElem (by rw [HLn.out]; omega)), h.2.1.frozenAt σ⟩
          obtain ⟨b0, b1, b2, -⟩ := HSa.out _ _ hs.out
          have hσ0 : (0 : Int) ≤ (σ : Int) := Int.natCast_nonneg _
          clear hσ s0 hd hab
          go_wp2_with fail
          try simp only [List.cons_append, List.nil_append, List.append_eq]
          refine wp_region_held_drew (S := (fun w' => w'.cell? ⟨W.heap.size, 0, none⟩ = some (.int .i64 x) ∧ w'.cell? ⟨W.heap.size, 1, none⟩ = some (.int .i64 y) ∧ w'.cell? ⟨W.heap.size, 2, none⟩ = some (.int .i64 z) ∧ w'.cell? (ad.add j) = some (.int .i64 d))) (by kernel_rfl) ?_ (fun hHeld0 => ?_)
          · (try dsimp only); first | go_keep | exact HSa.out _ _ hs.out.dr
          refine wpAnyH_take (i := 0) (oi := { dst := some 38, op := Go.Op.move (Go.Operand.tmp 6), type := 34, pos := "l11_det.go:91", after := #[], guard := none }) (v := ?_) rfl (by kernel_rfl) (by kernel_rfl) (by kernel_rfl) (fun _ _ _ h => h) (Or.inl ⟨by rfl, ?_⟩) (by assumption) ?_
          rotate_left
          · (intro w hSw; (try dsimp only at hSw); go_simp; try with_reducible rfl)
          try simp only [Act.put, List.setIfInBounds_toArray, List.set_cons_zero, List.set_cons_succ]
          refine wpAnyH_take (i := 1) (oi := { dst := some 39, op := Go.Op.load 27 (Go.Operand.tmp 1), type := 27, pos := "l11_det.go:91", after := #[], guard := none }) (v := ?_) rfl (by kernel_rfl) (by kernel_rfl) (by kernel_rfl) (fun _ _ _ h => h) (Or.inl ⟨by rfl, ?_⟩) (by assumption) ?_
          rotate_left
          · (intro w hSw; (try dsimp only at hSw); go_simp; try with_reducible rfl)
          try simp only [Act.put, List.setIfInBounds_toArray, List.set_cons_zero, List.set_cons_succ]
          refine wpAnyH_take (i := 2) (oi := { dst := some 40, op := Go.Op.move (Go.Operand.tmp 5), type := 3, pos := "l11_det.go:91", after := #[], guard := none }) (v := ?_) rfl (by kernel_rfl) (by kernel_rfl) (by kernel_rfl) (fun _ _ _ h => h) (Or.inl ⟨by rfl, ?_⟩) (by assumption) ?_
          rotate_left
          · (intro w hSw; (try dsimp only at hSw); go_simp; try with_reducible rfl)
          try simp only [Act.put, List.setIfInBounds_toArray, List.set_cons_zero, List.set_cons_succ]
          refine wpAnyH_take (i := 3) (oi := { dst := some 41, op := Go.Op.move (Go.Operand.tmp 7), type := 34, pos := "l11_det.go:91", after := #[], guard := none }) (v := ?_) rfl (by kernel_rfl) (by kernel_rfl) (by kernel_rfl) (fun _ _ _ h => h) (Or.inl ⟨by rfl, ?_⟩) (by assumption) ?_
          rotate_left
          · (intro w hSw; (try dsimp only at hSw); go_simp; try with_reducible rfl)
          try simp only [Act.put, List.setIfInBounds_toArray, List.set_cons_zero, List.set_cons_succ]
          refine wpAnyH_take (i := 4) (oi := { dst := some 42, op := Go.Op.move (Go.Operand.tmp 8), type := 3, pos := "l11_det.go:91", after := #[], guard := none }) (v := ?_) rfl (by kernel_rfl) (by kernel_rfl) (by kernel_rfl) (fun _ _ _ h => h) (Or.inl ⟨by rfl, ?_⟩) (by assumption) ?_
          rotate_left
          · (intro w hSw; (try dsimp only at hSw); go_simp; try with_reducible rfl)
          try simp only [Act.put, List.setIfInBounds_toArray, List.set_cons_zero, List.set_cons_succ]
          refine wpAnyH_take (i := 5) (oi := { dst := some 43, op := Go.Op.indexAddr 34 (Go.Operand.tmp 41) (Go.Operand.tmp 42), type := 0, pos := "l11_det.go:91", after := #[{ on := 3, ground := Go.Ground.data }, { on := 4, ground := Go.Ground.data }], guard := none }) (v := ?_) rfl (by kernel_rfl) (by kernel_rfl) (by kernel_rfl) (fun _ _ _ h => h) (Or.inl ⟨by rfl, ?_⟩) (by assumption) ?_
          rotate_left
          · (intro w hSw; (try dsimp only at hSw); go_simp; try with_reducible rfl)
          try simp only [Act.put, List.setIfInBounds_toArray, List.set_cons_zero, List.set_cons_succ]
          refine wpAnyH_take (i := 6) (oi := { dst := some 44, op := Go.Op.load 3 (Go.Operand.tmp 43), type := 3, pos := "l11_det.go:91", after := #[{ on := 5, ground := Go.Ground.data }], guard := none }) (v := ?_) rfl (by kernel_rfl) (by kernel_rfl) (by kernel_rfl) (fun _ _ _ h => h) (Or.inl ⟨by rfl, ?_⟩) (by assumption) ?_
          rotate_left
          · (intro w hSw; (try dsimp only at hSw); go_simp; try with_reducible rfl)
          try simp only [Act.put, List.setIfInBounds_toArray, List.set_cons_zero, List.set_cons_succ]
          refine wpAnyH_ready (rs := [7]) (by kernel_rfl) (by simp) ?_
          refine AllReadyH.cons (o := { dst := some 45, op := Go.Op.call { callee := Go.Callee.value (Go.Operand.func 145), args := #[Go.Operand.tmp 39, Go.Operand.tmp 40, Go.Operand.tmp 44], argTypes := #[27, 3, 3] }, type := 3, pos := "l11_det.go:91", after := #[{ on := 1, ground := Go.Ground.data }, { on := 2, ground := Go.Ground.data }, { on := 6, ground := Go.Ground.data }], guard := none }) rfl (fun K7 hK7 => ?_) AllReadyH.nil
          go_simp
          (refine (HS2.out _).mono ?_; rintro e w3 ⟨rfl, hb3⟩; have hs3 := Lib.hid (hs.out.dr.call hb3); clear hb3; obtain ⟨u, hcr, hfr⟩ := HEr.out _ hs3.out)
          go_wp2_with fail
          refine hK7.out _ _ ?_ (fun hHeld1 => ?_)
          · (try dsimp only); exact HSa.out _ _ hs3.out
          clear hK7 K7 hHeld0
          try simp only [Act.put, List.setIfInBounds_toArray, List.set_cons_zero, List.set_cons_succ]
          refine wpAnyH_take (i := 8) (oi := { dst := some 46, op := Go.Op.indexAddr 34 (Go.Operand.tmp 38) (Go.Operand.tmp 45), type := 0, pos := "l11_det.go:91", after := #[{ on := 0, ground := Go.Ground.data }, { on := 7, ground := Go.Ground.data }, { on := 0, ground := Go.Ground.phase }, { on := 1, ground := Go.Ground.phase }, { on := 2, ground := Go.Ground.phase }, { on := 3, ground := Go.Ground.phase }, { on := 4, ground := Go.Ground.phase }, { on := 5, ground := Go.Ground.phase }, { on := 6, ground := Go.Ground.phase }, { on := 7, ground := Go.Ground.phase }], guard := none }) (v := ?_) rfl (by kernel_rfl) (by kernel_rfl) (by kernel_rfl) (fun _ _ _ h => h) (Or.inl ⟨by rfl, ?_⟩) (by assumption) ?_
          rotate_left
          · (intro w hSw; (try dsimp only at hSw); go_simp; try with_reducible rfl)
          try simp only [Act.put, List.setIfInBounds_toArray, List.set_cons_zero, List.set_cons_succ]
          refine wpAnyH_ready (rs := [9]) (by kernel_rfl) (by simp) ?_
          refine AllReadyH.cons (o := { dst := none, op := Go.Op.store 3 (Go.Operand.tmp 46) (Go.Operand.const (Go.Value.int Go.IntKind.i64 (-1))), type := 0, pos := "l11_det.go:91", after := #[{ on := 8, ground := Go.Ground.data }, { on := 7, ground := Go.Ground.chain }, { on := 0, ground := Go.Ground.phase }, { on := 1, ground := Go.Ground.phase }, { on := 2, ground := Go.Ground.phase }, { on := 3, ground := Go.Ground.phase }, { on := 4, ground := Go.Ground.phase }, { on := 5, ground := Go.Ground.phase }, { on := 6, ground := Go.Ground.phase }, { on := 7, ground := Go.Ground.phase }], guard := none }) rfl (fun K9 hK9 => ?_) AllReadyH.nil
          go_simp
          refine hK9.out _ _ ?_ (fun hHeld2 => ?_)
          · (try dsimp only); exact HSa.out _ _ (hs3.out.put σ (-1))
          clear hK9 K9 hHeld1
          try simp only [Act.put, List.setIfInBounds_toArray, List.set_cons_zero, List.set_cons_succ]
          refine wpAnyH_done (by kernel_rfl) ?_ _
          go_wp2_with fail
          go_roundw
          case rel => exact ⟨j + 1, by omega, by go_num, by rw [HE1.out]; exact hs3.out.put σ (-1)⟩
          case measure => simp [intOf]; omega
        · obtain rfl : j = m := by omega
          obtain ⟨cs, hcs, hcsN⟩ := LS.app hol1.out hs.out (HLn.out j)
          rw [hlen] at hcs hcsN
          have hbq := hol1.out.2.1
          have hbq2 := hol1.out.2.2.1
          have hbq3 := hs.out.1.size
          go_wp2_with (at_builtin; refine wpList_append_lies _ rfl (.tmp 47) (.tmp 49) 38 rfl (W.heap.size + 1) 34 j0 _ 1 24 Try.underlying38 hj0 hy0 hy1 hy2 rfl (by decide) _ i cs rfl (hcs.alloc _) ⟨wr.heap.size, 0, none⟩ 1 1 [.slice (some ⟨w1.heap.size, 0, none⟩) n n] rfl rfl (news_eqI rfl (heap_alloc_new wr _)) (fun u hu => by rw [List.mem_singleton.1 hu]; rfl) (by omega) (by unfold maxLen; omega) (by omega) (by simp; omega) _ rfl ?_; intro gg cap w5 o5 g5 hat hlt2; clear hat hlt2)
          have HM5 := Lib.hid (hcsN _ w5 gg cap o5 g5)
          clear o5 g5 hcsN hcs
          go_roundw
          case rel => exact ⟨i + 1, by omega, by go_num, by rw [HFin.out]; exact HM5.out.1, mbox_keep (hx1.out.call hs.out.1) (Nat.lt_succ_self _) HM5.out.2⟩
          case measure => simp [intOf]; omega
    · obtain rfl : i = n := by omega
      go_wp2_with fail
      go_ret
      exact HEnd.out _ _ hol.out

set_option maxHeartbeats 2000000 in
theorem laplaceOf_bad (x y z : Int) (W : World) (hv : ¬ OkM x y z) :
    Calls Try.prog 118 #[.agg #[.int .i64 x, .int .i64 y, .int .i64 z]] W (Mtx (lpZ x y z) W) := by
  have hC : ∃ v : Int, 0 ≤ v ∧ v ≤ 16 ∧ ∀ X, Calls Try.prog 39 #[.agg #[.int .i64 x, .int .i64 y]] X (Nm v X) := by
    by_cases hg : 1 ≤ x ∧ x ≤ 4 ∧ 1 ≤ y ∧ y ≤ 4
    · obtain ⟨h1, h2, h3, h4⟩ := hg
      have hcc := (mul_bd x y h1 h2 h3 h4).1
      exact ⟨x * y, by omega, by omega, fun X => gridS.countCells_yes x y X h1 h2 h3 h4⟩
    · exact ⟨0, by omega, by omega, fun X => gridS.countCells_no x y X hg⟩
  obtain ⟨v, hv0, hv1, HC0⟩ := hC
  have HC := Lib.hid HC0
  have HM : Hid (∀ X, Calls Try.prog 116 #[.agg #[.int .i64 x, .int .i64 y, .int .i64 z]] X (Bl false X)) := Lib.hid fun X => by
    have := ok_any x y z X
    rwa [show okB x y z = false from decide_eq_false hv] at this
  have HEnd : Hid (∀ u w', ML W (W.heap.size + 1) [] u w' → Mtx (lpZ x y z) W (.returned u) w') := Lib.hid fun u w' h => by
    have e : lpZ x y z = [] := by
      unfold lpZ
      rw [if_neg (by rw [show okB x y z = false from decide_eq_false hv]; decide)]
    rw [e]
    exact mtx_mk h.2.2.2 (Nat.le_trans (Nat.le_succ _) (Nat.le_refl _)) (Nat.le_refl _) h.1
  have HX0 := Lib.hid (mbox_two x y z W 27 (.cells #[] 34))
  have hol0 : Hid (ML W (W.heap.size + 1) [] (.slice (some ⟨W.heap.size + 1, 0, none⟩) 0 0) ((W.alloc (.cells #[.int .i64 x, .int .i64 y, .int .i64 z] 27)).alloc (.cells #[] 34))) := Lib.hid (by
    have := ml_new (W := W) (X := W.alloc (.cells #[.int .i64 x, .int .i64 y, .int .i64 z] 27)) (below_box W _) (by simp)
    simpa using this)
  clear hv HC0
  go_enter Try.func118, Try.ntmps118
  go_wp2_with fail
  refine (HC.out _).mono ?_
  rintro e w1 ⟨rfl, hb⟩
  have hol := Lib.hid (hol0.out.call hb)
  have hx := Lib.hid (HX0.out.call hb)
  clear hb hol0 HX0 HC
  go_wp2_with fail
  go_loopw [3, 5] (fun u3 u5 wr => u3 = .slice (some ⟨W.heap.size + 1, 0, none⟩) 0 0 ∧ u5 = .int .i64 0 ∧ ML W (W.heap.size + 1) [] u3 wr ∧ MBox W.heap.size x y z wr) (fun _ _ _ => 0)
  case atStart => exact ⟨rfl, rfl, hol.out, hx.out⟩
  case round =>
    clear hol hx
    obtain ⟨rfl, rfl, hol1, hx1⟩ := hrel
    have hol := Lib.hid hol1
    have hx := Lib.hid hx1
    clear hol1 hx1
    obtain ⟨c0, c1, c2⟩ := hx.out.1
    by_cases hp : 0 < v
    · have hd : decide (0 < v) = true := decide_eq_true hp
      go_wp2_with fail
      refine (HM.out _).mono ?_
      rintro e w1 ⟨rfl, hb⟩
      have hol1 := Lib.hid (hol.out.call hb)
      clear hb hol
      go_wp2_with fail
      go_ret
      exact HEnd.out _ _ hol1.out
    · have hd : decide (0 < v) = false := decide_eq_false hp
      go_wp2_with fail
      go_ret
      exact HEnd.out _ _ hol.out

theorem laplaceOf_any (x y z : Int) (W : World) :
    Calls Try.prog 118 #[.agg #[.int .i64 x, .int .i64 y, .int .i64 z]] W (Mtx (lpZ x y z) W) := by
  by_cases hv : OkM x y z
  · exact laplaceOf_good x y z W hv
  · exact laplaceOf_bad x y z W hv
end Go.Proofs.Ythgnhamokikhkaa.matR
