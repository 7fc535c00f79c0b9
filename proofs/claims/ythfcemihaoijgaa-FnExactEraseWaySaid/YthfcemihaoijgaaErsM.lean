/- The contracts of the model's functions on walks without loops. -/
import Derived.Test.YthfcemihaoijgaaErsO
import Derived.Test.YthfcemihaoijgaaWayM
namespace Go.Proofs.Ythfcemihaoijgaa.ersM
open Go.ChangeShapes Go.WideShapes Go.ChangeAt Go.RowKit
open draw gridP gridC gridE bitP mazeP mazeC mazeM mazeS intsP reachP reachM reachN reachD intA listK wayP ersP ersO
set_option linter.unusedVariables false

set_option maxRecDepth 100000 in
/-- Whether a number is in a list. -/
theorem in_any (A : Option Addr) (n c : Nat) (l : List Int) (u : Int) (W : World) (hn : l.length = n) (hm : n ≤ 1048576) (hi : IntsIn W W.heap.size A l) :
    Calls Try.prog 45 #[.slice A n c, .int .i64 u] W fun e w' => e = .returned (.bool (decide (u ∈ l))) ∧ W = w' := by
  have HY := Lib.hid hi
  have Hn := Lib.hid hn
  clear hi hn
  go_enter Try.func45, Try.ntmps45
  go_wp2_with fail
  go_loopw [5] (fun u5 wr => ∃ k : Nat, k ≤ n ∧ u5 = .int .i64 k ∧ (∀ j d, j < k → l[j]? = some d → d ≠ u) ∧ wr = W) (fun u5 _ => n - (intOf u5).toNat)
  case atStart => exact ⟨0, Nat.zero_le _, rfl, fun j d hj => absurd hj (by omega), rfl⟩
  case round =>
    obtain ⟨k, hk, rfl, hin, rfl⟩ := hrel
    have HIn := Lib.hid hin
    clear hin
    by_cases hkn : k < n
    · obtain ⟨v, hv, hmem⟩ : ∃ v, l[k]? = some v ∧ v ∈ l := by
        have hkl : k < l.length := by have := Hn.out; omega
        exact ⟨l[k], List.getElem?_eq_getElem hkl, List.getElem_mem hkl⟩
      obtain ⟨ad, rfl, hab, hcell⟩ := ints_cell HY.out hv
      have hk0 : (0 : Int) ≤ (k : Int) := Int.natCast_nonneg _
      have hk1 : (k : Int) < (n : Int) := by omega
      by_cases hd : v = u
      · have hc : (v == u) = true := by simpa using hd
        have HE : Hid (decide (u ∈ l) = true) := Lib.hid (decide_eq_true (by rw [← hd]; exact hmem))
        clear hd hv hmem
        go_wp2_with fail
        go_ret
        exact bq_mk HE.out
      · have hc : (v == u) = false := by simpa using hd
        have HN : Hid (∀ j d, j < k + 1 → l[j]? = some d → d ≠ u) := fun j d hj hl => by
          rcases Nat.lt_or_ge j k with h | h
          · exact HIn.out j d h hl
          · obtain rfl : j = k := by omega
            rw [hv] at hl; cases hl; exact hd
        clear hd hv hmem
        go_wp2_with fail
        go_roundw
        case rel => exact ⟨k + 1, by omega, by go_num, HN.out, by trivial⟩
        case measure => simp [intOf]; omega
    · obtain rfl : k = n := by omega
      have HE : Hid (decide (u ∈ l) = false) := Lib.hid (decide_eq_false fun h => by
        obtain ⟨j, hj⟩ := List.getElem?_of_mem h
        have := (List.getElem?_eq_some_iff.1 hj).1
        exact HIn.out j u (by have := Hn.out; omega) hj rfl)
      go_wp2_with fail
      go_ret
      exact bq_mk HE.out

set_option maxRecDepth 100000 in
theorem eraseLoops_any (A : Option Addr) (n c : Nat) (l : List Int) (W : World) (hn : l.length = n) (hm : n ≤ 1048576) (hi : IntsIn W W.heap.size A l) :
    Calls Try.prog 19 #[.slice A n c] W (Ints (erL l) W) := by
  obtain ⟨i0, hi0, hz0, hz1, hz2⟩ := info_parts info_int
  have HK := @Lib.hid _ (fun w' v n base => @ints_mk (erL l) W w' v n base)
  have HO := Lib.hid (@ol_new W W (Below.refl _ _) (Nat.le_refl _))
  have HI := Lib.hid (fun o => hi.below (below_box W o))
  have Hn := Lib.hid hn
  have HF := Lib.hid (fun k hk => @er_facts l k hk)
  clear hi hn
  go_enter Try.func19, Try.ntmps19
  go_wp2_with fail
  go_loopw [3, 4] (fun u3 u4 wr => ∃ k : Nat, k ≤ n ∧ u4 = .int .i64 k ∧ OL W W.heap.size (erL (l.take k)) u3 wr ∧ IntsIn wr W.heap.size A l) (fun _ u4 _ => n - (intOf u4).toNat)
  case atStart => exact ⟨0, Nat.zero_le _, rfl, HO.out, HI.out _⟩
  case round =>
    obtain ⟨k, hk, rfl, hol0, hin0⟩ := hrel
    clear HO HI
    have hol := Lib.hid hol0
    have hin := Lib.hid hin0
    obtain ⟨A3, c3, rfl⟩ := hol0.form
    obtain ⟨f1, f2, f3⟩ := HF.out k (by have := Hn.out; omega)
    have Hnd := Lib.hid f1
    clear hol0 hin0 f1 f3
    by_cases hkn : k < n
    · obtain ⟨u, hu⟩ : ∃ u, l[k]? = some u := by
        have hkl : k < l.length := by have := Hn.out; omega
        exact ⟨l[k], List.getElem?_eq_getElem hkl⟩
      have HNx := Lib.hid (er_next hu)
      have Hu := Lib.hid hu
      have hk0 : (0 : Int) ≤ (k : Int) := Int.natCast_nonneg _
      have hk1 : (k : Int) < (n : Int) := by omega
      clear hu HF
      generalize erL (l.take k) = o at *
      have HE0 := Lib.hid (ea_zero o u)
      go_wp2_with fail
      go_loopw [5, 6] (fun u5 u6 wr => ∃ i : Nat, i ≤ o.length ∧ u6 = .int .i64 i ∧ u5 = .int .i64 (eaZ o u i) ∧ OL W W.heap.size o (.slice A3 o.length c3) wr ∧ IntsIn wr W.heap.size A l) (fun _ u6 _ => o.length - (intOf u6).toNat)
      case atStart => exact ⟨0, Nat.zero_le _, rfl, by rw [HE0.out], hol.out, hin.out⟩
      case round =>
        clear HE0 hol hin
        obtain ⟨i, hio, rfl, rfl, hol0, hin0⟩ := hrel
        have hol := Lib.hid hol0
        have hin := Lib.hid hin0
        clear hol0 hin0
        obtain ⟨ad, hae, hab, hcell⟩ := ints_cell hin.out Hu.out
        by_cases hil : i < o.length
        · obtain ⟨d, hd⟩ : ∃ d, o[i]? = some d := ⟨o[i], List.getElem?_eq_getElem hil⟩
          obtain ⟨g, cg, hge, hg, hgs⟩ := own_some hol.out.2.2.2 (by omega)
          cases hge
          subst hae
          have hcd := own_cellI hol.out.2.2.2 hd
          have hi0' : (0 : Int) ≤ (i : Int) := Int.natCast_nonneg _
          have hi1' : (i : Int) < (o.length : Int) := by omega
          by_cases hdu : d = u
          · subst hdu
            have HE := Lib.hid (ea_yes Hnd.out hd)
            clear hd hg hgs
            generalize eaZ o d i = ev at *
            go_wp2_with fail
            go_quiet (fail)
            go_wp2_with fail
            go_roundw
            case rel => exact ⟨i + 1, by omega, by go_num, by rw [HE.out], hol.out.drs _, hin.out.keep fun _ _ => rfl⟩
            case measure => simp [intOf]; omega
          · have hc : (d == u) = false := by simpa using hdu
            have HE := Lib.hid (ea_no hd hdu)
            clear hd hg hgs hdu
            go_wp2_with fail
            go_quiet (fail)
            go_wp2_with fail
            go_roundw
            case rel => exact ⟨i + 1, by omega, by go_num, by rw [HE.out], hol.out.drs _, hin.out.keep fun _ _ => rfl⟩
            case measure => simp [intOf]; omega
        · obtain rfl : i = o.length := by omega
          by_cases hmem : u ∈ o
          · have hlt := ix_lt hmem
            obtain ⟨g, cg, hge, hg, hgs⟩ := own_some hol.out.2.2.2 (by omega)
            cases hge
            subst hae
            obtain ⟨hcap, hcm⟩ := own_cap hol.out.2.2.2
            have HC := Lib.hid (ol_cut hol.out rfl (show ixN o u + 1 ≤ o.length by omega))
            rw [ea_in (Nat.le_refl _) hmem]
            rw [er_in hmem] at HNx
            clear hmem hg hgs hol
            unfold maxLen at hcm
            generalize ixN o u = ix at *
            have hx0 : (0 : Int) ≤ (ix : Int) := Int.natCast_nonneg _
            have hx1 : (0 : Int) ≤ (ix : Int) + 1 := by omega
            have hx2 : (ix : Int) + 1 ≤ (c3 : Int) := by omega
            go_wp2_with fail
            go_roundw
            case rel => exact ⟨k + 1, by omega, by go_num, by rw [HNx.out]; exact HC.out, hin.out⟩
            case measure => simp [intOf]; omega
          · rw [ea_out (Nat.le_refl _) hmem]
            rw [er_out hmem] at HNx
            subst hae
            have hsz := hol.out.2.2.1
            have hob := Lib.hid (fun X hb => IntsIn.low (B' := W.heap.size) (w' := X) hin.out (Nat.le_refl _) hb)
            clear hmem
            go_wp2_with (at_builtin; refine wpList_append_lies _ rfl (.tmp 36) (.tmp 41) 28 rfl (W.heap.size) 3 i0 _ 1 8 Try.underlying28 hi0 hz0 hz1 hz2 rfl (by omega) _ (o.length) _ rfl (hol.out.2.2.2.alloc _) ⟨wr.heap.size, 0, none⟩ 1 1 (icells [u]) rfl rfl (news_eqI rfl (heap_alloc_new wr _)) (oneCellI _) (by omega) (by unfold maxLen; omega) (by omega) (by simp; omega) (wr.heap.size + 1) (by simp) ?_; intro gg cap w3 hown' hgrow hat hlt2; clear hlt2; have HAt := Lib.hid hat; clear hat)
            have hn2 := hol.out.app hown' hgrow
            have HN1 := Lib.hid hn2.1
            have HN2 := Lib.hid (hob.out _ hn2.2)
            clear hn2 hown' hgrow HAt hol hin hob
            go_wp2_with fail
            go_roundw
            case rel => exact ⟨k + 1, by omega, by go_num, by rw [HNx.out]; exact HN1.out, HN2.out⟩
            case measure => simp [intOf]; omega
    · obtain rfl : k = n := by omega
      have e : l.take k = l := List.take_of_length_le (by have := Hn.out; omega)
      rw [e] at hol f2 ⊢
      clear e HF
      go_wp2_with fail
      go_ret
      exact HK.out _ _ _ _ rfl hol.out.2.2.2 hol.out.2.1 hol.out.1

theorem countErased_any (A : Option Addr) (n c : Nat) (l : List Int) (W : World) (hn : l.length = n) (hm : n ≤ 1048576) (hi : IntsIn W W.heap.size A l) :
    Calls Try.prog 25 #[.slice A n c] W (Nm (ceZ l) W) := by
  have HE := Lib.hid (eraseLoops_any A n c l W hn hm hi)
  have hl := er_len l
  have HK := @Lib.hid _ (fun w' b => @nm_mk ((n : Int) - ((erL l).length : Int)) (ceZ l) W w' (by unfold ceZ; rw [hn]) b)
  clear hi
  rw [hn] at hl
  clear hn
  generalize erL l = o at *
  go_enter Try.func25, Try.ntmps25
  go_wp2_with fail
  refine HE.out.mono ?_
  rintro e w1 ⟨v, rfl, ho, hb⟩
  obtain ⟨A1, c1, rfl⟩ := own_form ho
  clear ho HE
  have q1 : IntKind.i64.wrap ((n : Int) - (o.length : Int)) = (n : Int) - (o.length : Int) := IntWalk.i64_in _ (by omega)
  go_wp2_with fail
  go_ret
  exact HK.out _ hb

set_option maxRecDepth 100000 in
theorem isSimple_any (A : Option Addr) (n c : Nat) (l : List Int) (W : World) (hn : l.length = n) (hm : n ≤ 1048576) (hi : IntsIn W W.heap.size A l) (hc : n ≤ c) (hcm : c ≤ maxLen) :
    Calls Try.prog 24 #[.slice A n c] W (Bl (smB l) W) := by
  have HK := @Lib.hid _ (fun b w' h => @bl_mk b (smB l) W w' h)
  have HIn := Lib.hid (fun k u c' X (hk : k ≤ n) (h : IntsIn X X.heap.size A l) => in_any A k c' (l.take k) u X (by rw [List.length_take]; omega) (by omega) (ints_take h))
  have HI := Lib.hid hi
  have Hn := Lib.hid hn
  unfold maxLen at hcm
  clear hi hn
  go_enter Try.func24, Try.ntmps24
  go_wp2_with fail
  go_loopw [3] (fun u3 wr => ∃ k : Nat, k ≤ n ∧ u3 = .int .i64 k ∧ (l.take k).Nodup ∧ Below W.heap.size W wr) (fun u3 _ => n - (intOf u3).toNat)
  case atStart => exact ⟨0, Nat.zero_le _, rfl, by simp, Below.refl _ _⟩
  case round =>
    obtain ⟨k, hk, rfl, hnd, hbl0⟩ := hrel
    have Hnd := Lib.hid hnd
    have hbl := Lib.hid hbl0
    have hbd : Hid (∀ nd, Below W.heap.size W (wr.drewN nd)) := Lib.hid fun nd => below_call hbl0 ⟨rfl, rfl, rfl, Nat.le_refl _, fun _ _ => rfl⟩
    clear hnd hbl0
    by_cases hkn : k < n
    · obtain ⟨u, hu⟩ : ∃ u, l[k]? = some u := by
        have hkl : k < l.length := by have := Hn.out; omega
        exact ⟨l[k], List.getElem?_eq_getElem hkl⟩
      have hin := Lib.hid (HI.out.below hbl.out)
      obtain ⟨ad, rfl, hab, hcell⟩ := ints_cell hin.out hu
      have hk0 : (0 : Int) ≤ (k : Int) := Int.natCast_nonneg _
      have hk1 : (k : Int) < (n : Int) := by omega
      have hk2 : (k : Int) ≤ (c : Int) := by omega
      have HCd : Hid (∀ c' nd, Calls Try.prog 45 #[.slice (some ad) k c', .int .i64 u] (wr.drewN nd) fun e w' => e = .returned (.bool (decide (u ∈ l.take k))) ∧ wr.drewN nd = w') := Lib.hid fun c' nd => HIn.out k u c' (wr.drewN nd) (by omega) ((hin.out.keep fun _ _ => rfl).more hbl.out.size)
      have HT := Lib.hid (sm_take hu)
      have HNo := Lib.hid (fun h => sm_no hu h)
      clear hu HIn
      by_cases hmem : u ∈ l.take k
      · rw [decide_eq_true hmem] at HCd
        have HE := Lib.hid (HK.out false)
        have hsm := Lib.hid (HNo.out hmem)
        clear hmem HNo HT
        go_wp2_with fail
        try simp only [List.cons_append, List.nil_append, List.append_eq]
        refine wp_region_held_drew (S := (fun w' => w'.cell? (ad.add k) = some (.int .i64 u))) (by kernel_rfl) ?_ (fun hHeld0 => ?_)
        · (try dsimp only); go_keep
        refine wpAnyH_take (i := 0) (oi := { dst := some 10, op := Go.Op.move (Go.Operand.tmp 0), type := 28, pos := "l14_erase.go:25", after := #[], guard := none }) (v := ?_) rfl (by kernel_rfl) (by kernel_rfl) (by kernel_rfl) (fun _ _ _ h => h) (Or.inl ⟨by rfl, ?_⟩) (by assumption) ?_
        rotate_left
        · (intro w hSw; (try dsimp only at hSw); go_simp; try with_reducible rfl)
        try simp only [Act.put, List.setIfInBounds_toArray, List.set_cons_zero, List.set_cons_succ]
        refine wpAnyH_take (i := 1) (oi := { dst := some 11, op := Go.Op.move (Go.Operand.tmp 3), type := 3, pos := "l14_erase.go:25", after := #[], guard := none }) (v := ?_) rfl (by kernel_rfl) (by kernel_rfl) (by kernel_rfl) (fun _ _ _ h => h) (Or.inl ⟨by rfl, ?_⟩) (by assumption) ?_
        rotate_left
        · (intro w hSw; (try dsimp only at hSw); go_simp; try with_reducible rfl)
        try simp only [Act.put, List.setIfInBounds_toArray, List.set_cons_zero, List.set_cons_succ]
        refine wpAnyH_take (i := 2) (oi := { dst := some 12, op := Go.Op.slice 28 (Go.Operand.tmp 10) none (some (Go.Operand.tmp 11)) none, type := 28, pos := "l14_erase.go:25", after := #[{ on := 0, ground := Go.Ground.data }, { on := 1, ground := Go.Ground.data }], guard := none }) (v := ?_) rfl (by kernel_rfl) (by kernel_rfl) (by kernel_rfl) (fun _ _ _ h => h) (Or.inl ⟨by rfl, ?_⟩) (by assumption) ?_
        rotate_left
        · (intro w hSw; (try dsimp only at hSw); go_simp; try with_reducible rfl)
        try simp only [Act.put, List.setIfInBounds_toArray, List.set_cons_zero, List.set_cons_succ]
        refine wpAnyH_take (i := 3) (oi := { dst := some 13, op := Go.Op.move (Go.Operand.tmp 0), type := 28, pos := "l14_erase.go:25", after := #[], guard := none }) (v := ?_) rfl (by kernel_rfl) (by kernel_rfl) (by kernel_rfl) (fun _ _ _ h => h) (Or.inl ⟨by rfl, ?_⟩) (by assumption) ?_
        rotate_left
        · (intro w hSw; (try dsimp only at hSw); go_simp; try with_reducible rfl)
        try simp only [Act.put, List.setIfInBounds_toArray, List.set_cons_zero, List.set_cons_succ]
        refine wpAnyH_take (i := 4) (oi := { dst := some 14, op := Go.Op.move (Go.Operand.tmp 3), type := 3, pos := "l14_erase.go:25", after := #[], guard := none }) (v := ?_) rfl (by kernel_rfl) (by kernel_rfl) (by kernel_rfl) (fun _ _ _ h => h) (Or.inl ⟨by rfl, ?_⟩) (by assumption) ?_
        rotate_left
        · (intro w hSw; (try dsimp only at hSw); go_simp; try with_reducible rfl)
        try simp only [Act.put, List.setIfInBounds_toArray, List.set_cons_zero, List.set_cons_succ]
        refine wpAnyH_take (i := 5) (oi := { dst := some 15, op := Go.Op.indexAddr 28 (Go.Operand.tmp 13) (Go.Operand.tmp 14), type := 0, pos := "l14_erase.go:25", after := #[{ on := 3, ground := Go.Ground.data }, { on := 4, ground := Go.Ground.data }], guard := none }) (v := ?_) rfl (by kernel_rfl) (by kernel_rfl) (by kernel_rfl) (fun _ _ _ h => h) (Or.inl ⟨by rfl, ?_⟩) (by assumption) ?_
        rotate_left
        · (intro w hSw; (try dsimp only at hSw); go_simp; try with_reducible rfl)
        try simp only [Act.put, List.setIfInBounds_toArray, List.set_cons_zero, List.set_cons_succ]
        refine wpAnyH_take (i := 6) (oi := { dst := some 16, op := Go.Op.load 3 (Go.Operand.tmp 15), type := 3, pos := "l14_erase.go:25", after := #[{ on := 5, ground := Go.Ground.data }], guard := none }) (v := ?_) rfl (by kernel_rfl) (by kernel_rfl) (by kernel_rfl) (fun _ _ _ h => h) (Or.inl ⟨by rfl, ?_⟩) (by assumption) ?_
        rotate_left
        · (intro w hSw; (try dsimp only at hSw); go_simp; try with_reducible rfl)
        try simp only [Act.put, List.setIfInBounds_toArray, List.set_cons_zero, List.set_cons_succ]
        refine wpAnyH_ready (rs := [7]) (by kernel_rfl) (by simp) ?_
        refine AllReadyH.cons (o := { dst := some 17, op := Go.Op.call { callee := Go.Callee.value (Go.Operand.func 45), args := #[Go.Operand.tmp 12, Go.Operand.tmp 16], argTypes := #[28, 3] }, type := 4, pos := "l14_erase.go:25", after := #[{ on := 2, ground := Go.Ground.data }, { on := 6, ground := Go.Ground.data }], guard := none }) rfl (fun K7 hK7 => ?_) AllReadyH.nil
        go_simp
        (refine (HCd.out _ 1).mono ?_; rintro e v1 ⟨rfl, rfl⟩)
        go_wp2_with fail
        refine hK7.out _ _ ?_ (fun hHeld1 => ?_)
        · (try dsimp only); go_keep
        clear hK7 K7 hHeld0
        try simp only [Act.put, List.setIfInBounds_toArray, List.set_cons_zero, List.set_cons_succ]
        refine wpAnyH_done (by kernel_rfl) ?_ _
        go_wp2_with fail
        go_ret
        exact HE.out _ hsm.out.symm (hbd.out _)
      · rw [decide_eq_false hmem] at HCd
        have HN : Hid ((l.take (k + 1)).Nodup) := Lib.hid (HT.out.2 ⟨Hnd.out, hmem⟩)
        clear hmem HNo HT
        go_wp2_with fail
        try simp only [List.cons_append, List.nil_append, List.append_eq]
        refine wp_region_held_drew (S := (fun w' => w'.cell? (ad.add k) = some (.int .i64 u))) (by kernel_rfl) ?_ (fun hHeld0 => ?_)
        · (try dsimp only); go_keep
        refine wpAnyH_take (i := 0) (oi := { dst := some 10, op := Go.Op.move (Go.Operand.tmp 0), type := 28, pos := "l14_erase.go:25", after := #[], guard := none }) (v := ?_) rfl (by kernel_rfl) (by kernel_rfl) (by kernel_rfl) (fun _ _ _ h => h) (Or.inl ⟨by rfl, ?_⟩) (by assumption) ?_
        rotate_left
        · (intro w hSw; (try dsimp only at hSw); go_simp; try with_reducible rfl)
        try simp only [Act.put, List.setIfInBounds_toArray, List.set_cons_zero, List.set_cons_succ]
        refine wpAnyH_take (i := 1) (oi := { dst := some 11, op := Go.Op.move (Go.Operand.tmp 3), type := 3, pos := "l14_erase.go:25", after := #[], guard := none }) (v := ?_) rfl (by kernel_rfl) (by kernel_rfl) (by kernel_rfl) (fun _ _ _ h => h) (Or.inl ⟨by rfl, ?_⟩) (by assumption) ?_
        rotate_left
        · (intro w hSw; (try dsimp only at hSw); go_simp; try with_reducible rfl)
        try simp only [Act.put, List.setIfInBounds_toArray, List.set_cons_zero, List.set_cons_succ]
        refine wpAnyH_take (i := 2) (oi := { dst := some 12, op := Go.Op.slice 28 (Go.Operand.tmp 10) none (some (Go.Operand.tmp 11)) none, type := 28, pos := "l14_erase.go:25", after := #[{ on := 0, ground := Go.Ground.data }, { on := 1, ground := Go.Ground.data }], guard := none }) (v := ?_) rfl (by kernel_rfl) (by kernel_rfl) (by kernel_rfl) (fun _ _ _ h => h) (Or.inl ⟨by rfl, ?_⟩) (by assumption) ?_
        rotate_left
        · (intro w hSw; (try dsimp only at hSw); go_simp; try with_reducible rfl)
        try simp only [Act.put, List.setIfInBounds_toArray, List.set_cons_zero, List.set_cons_succ]
        refine wpAnyH_take (i := 3) (oi := { dst := some 13, op := Go.Op.move (Go.Operand.tmp 0), type := 28, pos := "l14_erase.go:25", after := #[], guard := none }) (v := ?_) rfl (by kernel_rfl) (by kernel_rfl) (by kernel_rfl) (fun _ _ _ h => h) (Or.inl ⟨by rfl, ?_⟩) (by assumption) ?_
        rotate_left
        · (intro w hSw; (try dsimp only at hSw); go_simp; try with_reducible rfl)
        try simp only [Act.put, List.setIfInBounds_toArray, List.set_cons_zero, List.set_cons_succ]
        refine wpAnyH_take (i := 4) (oi := { dst := some 14, op := Go.Op.move (Go.Operand.tmp 3), type := 3, pos := "l14_erase.go:25", after := #[], guard := none }) (v := ?_) rfl (by kernel_rfl) (by kernel_rfl) (by kernel_rfl) (fun _ _ _ h => h) (Or.inl ⟨by rfl, ?_⟩) (by assumption) ?_
        rotate_left
        · (intro w hSw; (try dsimp only at hSw); go_simp; try with_reducible rfl)
        try simp only [Act.put, List.setIfInBounds_toArray, List.set_cons_zero, List.set_cons_succ]
        refine wpAnyH_take (i := 5) (oi := { dst := some 15, op := Go.Op.indexAddr 28 (Go.Operand.tmp 13) (Go.Operand.tmp 14), type := 0, pos := "l14_erase.go:25", after := #[{ on := 3, ground := Go.Ground.data }, { on := 4, ground := Go.Ground.data }], guard := none }) (v := ?_) rfl (by kernel_rfl) (by kernel_rfl) (by kernel_rfl) (fun _ _ _ h => h) (Or.inl ⟨by rfl, ?_⟩) (by assumption) ?_
        rotate_left
        · (intro w hSw; (try dsimp only at hSw); go_simp; try with_reducible rfl)
        try simp only [Act.put, List.setIfInBounds_toArray, List.set_cons_zero, List.set_cons_succ]
        refine wpAnyH_take (i := 6) (oi := { dst := some 16, op := Go.Op.load 3 (Go.Operand.tmp 15), type := 3, pos := "l14_erase.go:25", after := #[{ on := 5, ground := Go.Ground.data }], guard := none }) (v := ?_) rfl (by kernel_rfl) (by kernel_rfl) (by kernel_rfl) (fun _ _ _ h => h) (Or.inl ⟨by rfl, ?_⟩) (by assumption) ?_
        rotate_left
        · (intro w hSw; (try dsimp only at hSw); go_simp; try with_reducible rfl)
        try simp only [Act.put, List.setIfInBounds_toArray, List.set_cons_zero, List.set_cons_succ]
        refine wpAnyH_ready (rs := [7]) (by kernel_rfl) (by simp) ?_
        refine AllReadyH.cons (o := { dst := some 17, op := Go.Op.call { callee := Go.Callee.value (Go.Operand.func 45), args := #[Go.Operand.tmp 12, Go.Operand.tmp 16], argTypes := #[28, 3] }, type := 4, pos := "l14_erase.go:25", after := #[{ on := 2, ground := Go.Ground.data }, { on := 6, ground := Go.Ground.data }], guard := none }) rfl (fun K7 hK7 => ?_) AllReadyH.nil
        go_simp
        (refine (HCd.out _ 1).mono ?_; rintro e v1 ⟨rfl, rfl⟩)
        go_wp2_with fail
        refine hK7.out _ _ ?_ (fun hHeld1 => ?_)
        · (try dsimp only); go_keep
        clear hK7 K7 hHeld0
        try simp only [Act.put, List.setIfInBounds_toArray, List.set_cons_zero, List.set_cons_succ]
        refine wpAnyH_done (by kernel_rfl) ?_ _
        go_wp2_with fail
        go_roundw
        case rel => exact ⟨k + 1, by omega, by go_num, HN.out, hbd.out _⟩
        case measure => simp [intOf]; omega
    · obtain rfl : k = n := by omega
      have HE := Lib.hid (HK.out true)
      have hsm : Hid (smB l = true) := Lib.hid (decide_eq_true (by have := Hnd.out; rwa [List.take_of_length_le (by have := Hn.out; omega)] at this))
      clear HIn
      go_wp2_with fail
      go_ret
      exact HE.out _ hsm.out.symm hbl.out

set_option maxRecDepth 100000 in
theorem direction_any (x y a b : Int) (W : World) :
    Calls Try.prog 46 #[.agg #[.int .i64 x, .int .i64 y], .int .i64 a, .int .i64 b] W (Nm (dirZ x y a b) W) := by
  have HK := @Lib.hid _ (fun v w' h => @nm_mk v (dirZ x y a b) W w' h)
  have HNb := Lib.hid (fun d X => gridS.neighbor_any x y a d X)
  have HB := Lib.hid (fun T => below_box W (.cells #[.int .i64 x, .int .i64 y] T))
  have HX := Lib.hid (fun T => box_new x y W T)
  have HI := Lib.hid (fun k hk h hl => @dir_is x y a b k hk h hl)
  have HNo := Lib.hid (fun h => @dir_none x y a b h)
  generalize dirZ x y a b = dv at *
  go_enter Try.func46, Try.ntmps46
  go_wp2_with fail
  go_loopw [7] (fun u7 wr => ∃ k : Nat, k ≤ 4 ∧ u7 = .int .i64 k ∧ (∀ j : Nat, j < k → nbZ x y a j ≠ b) ∧ Below W.heap.size W wr ∧ Box W.heap.size x y wr) (fun u7 _ => 4 - (intOf u7).toNat)
  case atStart => exact ⟨0, Nat.zero_le _, rfl, fun j hj => absurd hj (by omega), HB.out _, HX.out _⟩
  case round =>
    obtain ⟨k, hk, rfl, hlow, hb0, hx0⟩ := hrel
    have HLow := Lib.hid hlow
    have hbl := Lib.hid hb0
    have hbx := Lib.hid hx0
    obtain ⟨c0, c1⟩ := hx0.1
    clear hlow hb0 hx0 HB HX
    by_cases hk4 : k < 4
    · have hk3 : decide ((k : Int) ≤ 3) = true := decide_eq_true (by omega)
      have HNk := Lib.hid (fun X => HNb.out k X)
      have HIk := Lib.hid (fun h => HI.out k hk4 h HLow.out)
      have hk0 : (0 : Int) ≤ (k : Int) := Int.natCast_nonneg _
      have hk3' : (k : Int) ≤ 3 := by omega
      by_cases hnb : nbZ x y a k = b
      · have hE := Lib.hid (HIk.out hnb)
        rw [hnb] at HNk
        clear hnb HI HIk HNo HNb
        go_wp2_with fail
        refine (HNk.out _).mono ?_
        rintro e w1 ⟨rfl, hb⟩
        have hbl1 := Lib.hid (below_call hbl.out hb)
        clear hb hbl hbx c0 c1
        go_wp2_with fail
        go_ret
        exact HK.out _ _ hE.out.symm hbl1.out
      · have HN : Hid (∀ j : Nat, j < k + 1 → nbZ x y a j ≠ b) := Lib.hid fun j hj => by
          rcases Nat.lt_or_ge j k with h | h
          · exact HLow.out j h
          · obtain rfl : j = k := by omega
            exact hnb
        have hnb' : (nbZ x y a k == b) = false := by simpa using hnb
        clear hnb HI HIk HNo HNb
        generalize nbZ x y a k = nv at *
        go_wp2_with fail
        refine (HNk.out _).mono ?_
        rintro e w1 ⟨rfl, hb⟩
        have hbl1 := Lib.hid (below_call hbl.out hb)
        have hbx1 := Lib.hid (hbx.out.call hb)
        clear hb hbl hbx c0 c1
        go_wp2_with fail
        go_roundw
        case rel => exact ⟨k + 1, by omega, by go_num, HN.out, hbl1.out, hbx1.out⟩
        case measure => simp [intOf]; omega
    · obtain rfl : k = 4 := by omega
      have hE := Lib.hid (HNo.out HLow.out)
      go_wp2_with fail
      go_ret
      exact HK.out _ _ hE.out.symm hbl.out

set_option maxRecDepth 100000 in
set_option maxHeartbeats 1000000 in
theorem eraseWay_any (x y z a : Int) (A : Option Addr) (n c : Nat) (l : List Int) (W : World) (hn : l.length = n) (hm : n ≤ 1048576) (hi : IntsIn W W.heap.size A l) :
    Calls Try.prog 26 #[.agg #[.int .i64 x, .int .i64 y, .int .i64 z], .int .i64 a, .slice A n c] W (IntsB (ewL x y z a l) (ewB x y z a l) W) := by
  obtain ⟨i0, hi0, hz0, hz1', hz2'⟩ := info_parts info_int
  have HK := @Lib.hid _ (fun b w' v n base h h' => @intsb_mk (ewL x y z a l) (ewB x y z a l) b W w' v n base h h')
  have HCo := Lib.hid (fun X h => wayM.cellsOn_any x y z a A n c l X hn hm h)
  have HEr := Lib.hid (fun A' c' X h => eraseLoops_any A' (coL x y z a l).length c' (coL x y z a l) X rfl (by have := co_most x y z a l; omega) h)
  have HD := Lib.hid (fun a b X => direction_any x y a b X)
  have HW := Lib.hid (fun T o => (@wayM.ww_new W x y z A l hi T).call (below_box _ o))
  have HO := Lib.hid (fun T => @ol_new W (W.alloc (.cells #[.int .i64 x, .int .i64 y, .int .i64 z] T)) (below_box _ _) (by simp))
  have Hl := Lib.hid (show ewL x y z a l = dwL x y (erL (coL x y z a l)) from rfl)
  have Hb := Lib.hid (show ewB x y z a l = decide (0 < (erL (coL x y z a l)).length) from rfl)
  have hlen := er_len (coL x y z a l)
  have hco := co_most x y z a l
  clear hi hn
  generalize coL x y z a l = C at *
  generalize erL C = E at *
  generalize ewL x y z a l = L at *
  generalize ewB x y z a l = b at *
  go_enter Try.func26, Try.ntmps26
  go_wp2_with fail
  have hww0 := Lib.hid (HW.out 27 (.cells #[] 3))
  have hol0 := Lib.hid (HO.out 27)
  refine (HCo.out _ (hww0.out.2.2.more hww0.out.1.size)).mono ?_
  rintro e w1 ⟨v1, rfl, ho1, hb⟩
  have hbx1 := Lib.hid (hww0.out.2.1.call hb)
  have hol1 := Lib.hid (hol0.out.call hb)
  have hbs : (W.alloc (.cells #[.int .i64 x, .int .i64 y, .int .i64 z] 27)).heap.size = W.heap.size + 1 := by simp
  rw [hbs] at hol1
  obtain ⟨A1, c1, rfl⟩ := own_form ho1
  have HI1 := Lib.hid (ints_own ho1).1
  clear hb hww0 hol0 HW HO HCo hbs ho1
  go_wp2_with fail
  refine (HEr.out _ _ _ HI1.out).mono ?_
  rintro e w2 ⟨v2, rfl, ho2, hb⟩
  have hbx2 := Lib.hid (hbx1.out.call hb)
  have hol2 := Lib.hid (hol1.out.call hb)
  have hz2 : W.heap.size + 1 < w1.heap.size := own_lt hol1.out.2.2.2 _ rfl
  clear hb hbx1 hol1 HI1 HEr
  rcases Nat.eq_zero_or_pos E.length with he | he
  · obtain rfl : E = [] := List.eq_nil_of_length_eq_zero he
    obtain ⟨A2, c2, rfl⟩ := own_form ho2
    have hb0 : Hid (false = b) := by rw [Hb.out]; rfl
    have hl0 : Hid (L = []) := by rw [Hl.out]; rfl
    clear ho2 he hlen
    go_wp2_with fail
    go_loopw [8, 10] (fun u8 u10 wr => u8 = .slice (some ⟨W.heap.size + 1, 0, none⟩) 0 0 ∧ u10 = .int .i64 1 ∧ wr = w2) (fun _ _ _ => 0)
    case atStart => exact ⟨rfl, rfl, rfl⟩
    case round =>
      obtain ⟨rfl, rfl, rfl⟩ := hrel
      go_wp2_with fail
      go_ret2
      exact HK.out _ _ _ 0 _ (by rw [hl0.out]; rfl) hb0.out (by rw [hl0.out]; exact hol2.out.2.2.2) hol2.out.2.1 hol2.out.1
  · obtain ⟨g, cg, rfl, hg, hgs⟩ := own_some ho2 he
    have htr : Hid (TR W x y z g cg E (dwL x y (E.take (0 + 1))) (.slice (some ⟨W.heap.size + 1, 0, none⟩) 0 0) w2) := ⟨by rw [dw_one]; exact hol2.out, by show some (W.heap.size + 1) ≠ some g; intro e; have := Option.some.inj e; omega, hbx2.out, own_base ho2 (by omega)⟩
    have hb0 : Hid (true = b) := Lib.hid (by rw [Hb.out, decide_eq_true he])
    clear ho2 hg hgs hol2 hbx2 hz2 Hb
    go_wp2_with fail
    go_loopw [8, 10] (fun u8 u10 wr => ∃ j : Nat, j < E.length ∧ u10 = .int .i64 ((j : Int) + 1) ∧ TR W x y z g cg E (dwL x y (E.take (j + 1))) u8 wr) (fun _ u10 _ => E.length - (intOf u10).toNat)
    case atStart => exact ⟨0, he, rfl, htr.out⟩
    case round =>
      clear htr
      obtain ⟨j, hj, rfl, htr0⟩ := hrel
      have htr := Lib.hid htr0
      obtain ⟨A8, c8, rfl⟩ := htr0.1.form
      obtain ⟨m0, m1, m2⟩ := htr0.2.2.1.1
      have hsz := htr0.1.2.2.1
      have hdl : (dwL x y (E.take (j + 1))).length ≤ 500 := by rw [dw_len, List.length_take]; omega
      have hj0 : (0 : Int) ≤ (j : Int) := Int.natCast_nonneg _
      by_cases hj1 : j + 1 < E.length
      · obtain ⟨p, hp⟩ : ∃ p, E[j]? = some p := ⟨E[j], List.getElem?_eq_getElem hj⟩
        obtain ⟨q, hq⟩ : ∃ q, E[j + 1]? = some q := ⟨E[j + 1], List.getElem?_eq_getElem hj1⟩
        have c0 := own_cellI htr0.2.2.2 hp
        have d0 := own_cellI htr0.2.2.2 hq
        have HNx := Lib.hid (dw_next (x := x) (y := y) hp hq)
        have HP := Lib.hid hp
        have HQ := Lib.hid hq
        have HDr := Lib.hid (fun X => HD.out p q X)
        have hi1 : (j : Int) + 1 < (E.length : Int) := by omega
        have hi2 : (j : Int) < (E.length : Int) := by omega
        have hi3 : (0 : Int) ≤ (j : Int) + 1 := by omega
        have hw1 : IntKind.i64.wrap (j : Int) = (j : Int) := IntWalk.i64_in _ (by omega)
        clear hp hq htr0 HD
        generalize dwL x y (E.take (j + 1)) = Lj at *
        generalize dirZ x y p q = d at *
        generalize hEN : E.length = N at *
        go_wp2_with fail
        try simp only [List.cons_append, List.nil_append, List.append_eq]
        refine wp_region_held_drew (S := (fun w' => w'.cell? ⟨g, j, none⟩ = some (.int .i64 p) ∧ w'.cell? ⟨g, j + 1, none⟩ = some (.int .i64 q) ∧ w'.cell? ⟨W.heap.size, 0, none⟩ = some (.int .i64 x) ∧ w'.cell? ⟨W.heap.size, 1, none⟩ = some (.int .i64 y))) (by kernel_rfl) ?_ (fun hHeld0 => ?_)
        · (try dsimp only); go_keep
        refine wpAnyH_take (i := 0) (oi := { dst := some 23, op := Go.Op.move (Go.Operand.tmp 8), type := 28, pos := "l14_erase.go:48", after := #[], guard := none }) (v := ?_) rfl (by kernel_rfl) (by kernel_rfl) (by kernel_rfl) (fun _ _ _ h => h) (Or.inl ⟨by rfl, ?_⟩) (by assumption) ?_
        rotate_left
        · (intro w hSw; (try dsimp only at hSw); go_simp; try with_reducible rfl)
        try simp only [Act.put, List.setIfInBounds_toArray, List.set_cons_zero, List.set_cons_succ]
        refine wpAnyH_take (i := 1) (oi := { dst := some 24, op := Go.Op.fieldAddr 27 (Go.Operand.tmp 3) 0, type := 0, pos := "l14_erase.go:48", after := #[], guard := none }) (v := ?_) rfl (by kernel_rfl) (by kernel_rfl) (by kernel_rfl) (fun _ _ _ h => h) (Or.inl ⟨by rfl, ?_⟩) (by assumption) ?_
        rotate_left
        · (intro w hSw; (try dsimp only at hSw); go_simp; try with_reducible rfl)
        try simp only [Act.put, List.setIfInBounds_toArray, List.set_cons_zero, List.set_cons_succ]
        refine wpAnyH_take (i := 2) (oi := { dst := some 25, op := Go.Op.load 25 (Go.Operand.tmp 24), type := 25, pos := "l14_erase.go:48", after := #[{ on := 1, ground := Go.Ground.data }], guard := none }) (v := ?_) rfl (by kernel_rfl) (by kernel_rfl) (by kernel_rfl) (fun _ _ _ h => h) (Or.inl ⟨by rfl, ?_⟩) (by assumption) ?_
        rotate_left
        · (intro w hSw; (try dsimp only at hSw); go_simp; try with_reducible rfl)
        try simp only [Act.put, List.setIfInBounds_toArray, List.set_cons_zero, List.set_cons_succ]
        refine wpAnyH_take (i := 3) (oi := { dst := some 26, op := Go.Op.move (Go.Operand.tmp 9), type := 28, pos := "l14_erase.go:48", after := #[], guard := none }) (v := ?_) rfl (by kernel_rfl) (by kernel_rfl) (by kernel_rfl) (fun _ _ _ h => h) (Or.inl ⟨by rfl, ?_⟩) (by assumption) ?_
        rotate_left
        · (intro w hSw; (try dsimp only at hSw); go_simp; try with_reducible rfl)
        try simp only [Act.put, List.setIfInBounds_toArray, List.set_cons_zero, List.set_cons_succ]
        refine wpAnyH_take (i := 4) (oi := { dst := some 27, op := Go.Op.move (Go.Operand.tmp 10), type := 3, pos := "l14_erase.go:48", after := #[], guard := none }) (v := ?_) rfl (by kernel_rfl) (by kernel_rfl) (by kernel_rfl) (fun _ _ _ h => h) (Or.inl ⟨by rfl, ?_⟩) (by assumption) ?_
        rotate_left
        · (intro w hSw; (try dsimp only at hSw); go_simp; try with_reducible rfl)
        try simp only [Act.put, List.setIfInBounds_toArray, List.set_cons_zero, List.set_cons_succ]
        refine wpAnyH_take (i := 5) (oi := { dst := some 28, op := Go.Op.binOp Go.BinOp.sub 3 (Go.Operand.tmp 27) (Go.Operand.const (Go.Value.int Go.IntKind.i64 1)) 3, type := 3, pos := "l14_erase.go:48", after := #[{ on := 4, ground := Go.Ground.data }], guard := none }) (v := ?_) rfl (by kernel_rfl) (by kernel_rfl) (by kernel_rfl) (fun _ _ _ h => h) (Or.inl ⟨by rfl, ?_⟩) (by assumption) ?_
        rotate_left
        · (intro w hSw; (try dsimp only at hSw); go_simp; try with_reducible rfl)
        try simp only [Act.put, List.setIfInBounds_toArray, List.set_cons_zero, List.set_cons_succ]
        refine wpAnyH_take (i := 6) (oi := { dst := some 29, op := Go.Op.indexAddr 28 (Go.Operand.tmp 26) (Go.Operand.tmp 28), type := 0, pos := "l14_erase.go:48", after := #[{ on := 3, ground := Go.Ground.data }, { on := 5, ground := Go.Ground.data }], guard := none }) (v := ?_) rfl (by kernel_rfl) (by kernel_rfl) (by kernel_rfl) (fun _ _ _ h => h) (Or.inl ⟨by rfl, ?_⟩) (by assumption) ?_
        rotate_left
        · (intro w hSw; (try dsimp only at hSw); go_simp; try with_reducible rfl)
        try simp only [Act.put, List.setIfInBounds_toArray, List.set_cons_zero, List.set_cons_succ]
        refine wpAnyH_take (i := 7) (oi := { dst := some 30, op := Go.Op.load 3 (Go.Operand.tmp 29), type := 3, pos := "l14_erase.go:48", after := #[{ on := 6, ground := Go.Ground.data }], guard := none }) (v := ?_) rfl (by kernel_rfl) (by kernel_rfl) (by kernel_rfl) (fun _ _ _ h => h) (Or.inl ⟨by rfl, ?_⟩) (by assumption) ?_
        rotate_left
        · (intro w hSw; (try dsimp only at hSw); go_simp; try with_reducible rfl)
        try simp only [Act.put, List.setIfInBounds_toArray, List.set_cons_zero, List.set_cons_succ]
        refine wpAnyH_take (i := 8) (oi := { dst := some 31, op := Go.Op.move (Go.Operand.tmp 9), type := 28, pos := "l14_erase.go:48", after := #[], guard := none }) (v := ?_) rfl (by kernel_rfl) (by kernel_rfl) (by kernel_rfl) (fun _ _ _ h => h) (Or.inl ⟨by rfl, ?_⟩) (by assumption) ?_
        rotate_left
        · (intro w hSw; (try dsimp only at hSw); go_simp; try with_reducible rfl)
        try simp only [Act.put, List.setIfInBounds_toArray, List.set_cons_zero, List.set_cons_succ]
        refine wpAnyH_take (i := 9) (oi := { dst := some 32, op := Go.Op.move (Go.Operand.tmp 10), type := 3, pos := "l14_erase.go:48", after := #[], guard := none }) (v := ?_) rfl (by kernel_rfl) (by kernel_rfl) (by kernel_rfl) (fun _ _ _ h => h) (Or.inl ⟨by rfl, ?_⟩) (by assumption) ?_
        rotate_left
        · (intro w hSw; (try dsimp only at hSw); go_simp; try with_reducible rfl)
        try simp only [Act.put, List.setIfInBounds_toArray, List.set_cons_zero, List.set_cons_succ]
        refine wpAnyH_take (i := 10) (oi := { dst := some 33, op := Go.Op.indexAddr 28 (Go.Operand.tmp 31) (Go.Operand.tmp 32), type := 0, pos := "l14_erase.go:48", after := #[{ on := 8, ground := Go.Ground.data }, { on := 9, ground := Go.Ground.data }], guard := none }) (v := ?_) rfl (by kernel_rfl) (by kernel_rfl) (by kernel_rfl) (fun _ _ _ h => h) (Or.inl ⟨by rfl, ?_⟩) (by assumption) ?_
        rotate_left
        · (intro w hSw; (try dsimp only at hSw); go_simp; try with_reducible rfl)
        try simp only [Act.put, List.setIfInBounds_toArray, List.set_cons_zero, List.set_cons_succ]
        refine wpAnyH_take (i := 11) (oi := { dst := some 34, op := Go.Op.load 3 (Go.Operand.tmp 33), type := 3, pos := "l14_erase.go:48", after := #[{ on := 10, ground := Go.Ground.data }], guard := none }) (v := ?_) rfl (by kernel_rfl) (by kernel_rfl) (by kernel_rfl) (fun _ _ _ h => h) (Or.inl ⟨by rfl, ?_⟩) (by assumption) ?_
        rotate_left
        · (intro w hSw; (try dsimp only at hSw); go_simp; try with_reducible rfl)
        try simp only [Act.put, List.setIfInBounds_toArray, List.set_cons_zero, List.set_cons_succ]
        refine wpAnyH_ready (rs := [12]) (by kernel_rfl) (by simp) ?_
        refine AllReadyH.cons (o := { dst := some 35, op := Go.Op.call { callee := Go.Callee.value (Go.Operand.func 46), args := #[Go.Operand.tmp 25, Go.Operand.tmp 30, Go.Operand.tmp 34], argTypes := #[25, 3, 3] }, type := 3, pos := "l14_erase.go:48", after := #[{ on := 2, ground := Go.Ground.data }, { on := 7, ground := Go.Ground.data }, { on := 11, ground := Go.Ground.data }], guard := none }) rfl (fun K12 hK12 => ?_) AllReadyH.nil
        go_simp
        (refine (HDr.out _).mono ?_; rintro e v1 ⟨rfl, hb1⟩; have ht2 := Lib.hid (htr.out.dr.call hb1); obtain ⟨p1, q1, r1⟩ := ht2.out.2.2.1.1; have s1 := own_cellI (hEN ▸ ht2.out.2.2.2) HP.out; have t1 := own_cellI (hEN ▸ ht2.out.2.2.2) HQ.out; have hz1 := ht2.out.1.2.2.1; clear hb1)
        go_wp2_with fail
        refine hK12.out _ _ ?_ (fun hHeld1 => ?_)
        · (try dsimp only); go_keep
        clear hK12 K12 hHeld0
        try simp only [Act.put, List.setIfInBounds_toArray, List.set_cons_zero, List.set_cons_succ]
        refine wpAnyH_ready (rs := [13]) (by kernel_rfl) (by simp) ?_
        refine AllReadyH.cons (o := { dst := some 36, op := Go.Op.buildSlice 28 1 #[(0, Go.Operand.tmp 35)], type := 28, pos := "l14_erase.go:48", after := #[{ on := 12, ground := Go.Ground.data }], guard := none }) rfl (fun K13 hK13 => ?_) AllReadyH.nil
        go_simp
        refine hK13.out _ _ ?_ (fun hHeld2 => ?_)
        · (try dsimp only); go_keep
        clear hK13 K13 hHeld1
        try simp only [Act.put, List.setIfInBounds_toArray, List.set_cons_zero, List.set_cons_succ]
        refine wpAnyH_ready (rs := [14]) (by kernel_rfl) (by simp) ?_
        refine AllReadyH.cons (o := { dst := some 37, op := Go.Op.call { callee := Go.Callee.builtin Go.Builtin.append, args := #[Go.Operand.tmp 23, Go.Operand.tmp 36], argTypes := #[28, 28] }, type := 28, pos := "l14_erase.go:48", after := #[{ on := 0, ground := Go.Ground.data }, { on := 13, ground := Go.Ground.data }, { on := 12, ground := Go.Ground.chain }], guard := none }) rfl (fun K14 hK14 => ?_) AllReadyH.nil
        refine step_append_lies _ rfl (.tmp 23) (.tmp 36) 28 rfl (W.heap.size + 1) 3 i0 _ 1 8 Try.underlying28 hi0 hz0 hz1' hz2' rfl (by decide) _ Lj.length _ rfl (ht2.out.1.2.2.2.alloc _) ⟨v1.heap.size, 0, none⟩ 1 1 (icells [d]) rfl rfl (news_eqI rfl (heap_alloc_new v1 _)) (oneCellI _) (by omega) (by unfold maxLen; omega) (by omega) (by simp; omega) (v1.heap.size + 1) (by simp) ?_; intro gg cap w5 o5 g5 hat hlt2; have hn2 := Lib.hid (ht2.out.app o5 g5 hat); clear hlt2 hat o5 g5
        refine hK14.out _ _ ?_ (fun hHeld3 => ?_)
        · (try dsimp only); exact ⟨own_cellI (hEN ▸ hn2.out.2.2.2) HP.out, own_cellI (hEN ▸ hn2.out.2.2.2) HQ.out, hn2.out.2.2.1.1.1, hn2.out.2.2.1.1.2.1⟩
        clear hK14 K14 hHeld2
        try simp only [Act.put, List.setIfInBounds_toArray, List.set_cons_zero, List.set_cons_succ]
        refine wpAnyH_take (i := 15) (oi := { dst := some 8, op := Go.Op.assign (Go.Operand.tmp 37), type := 28, pos := "l14_erase.go:48", after := #[{ on := 14, ground := Go.Ground.data }, { on := 14, ground := Go.Ground.chain }, { on := 0, ground := Go.Ground.phase }, { on := 1, ground := Go.Ground.phase }, { on := 2, ground := Go.Ground.phase }, { on := 3, ground := Go.Ground.phase }, { on := 4, ground := Go.Ground.phase }, { on := 5, ground := Go.Ground.phase }, { on := 6, ground := Go.Ground.phase }, { on := 7, ground := Go.Ground.phase }, { on := 8, ground := Go.Ground.phase }, { on := 9, ground := Go.Ground.phase }, { on := 10, ground := Go.Ground.phase }, { on := 11, ground := Go.Ground.phase }, { on := 12, ground := Go.Ground.phase }, { on := 13, ground := Go.Ground.phase }, { on := 14, ground := Go.Ground.phase }], guard := none }) (v := ?_) rfl (by kernel_rfl) (by kernel_rfl) (by kernel_rfl) (fun _ _ _ h => h) (Or.inl ⟨by rfl, ?_⟩) (by assumption) ?_
        rotate_left
        · (intro w hSw; (try dsimp only at hSw); go_simp; try with_reducible rfl)
        try simp only [Act.put, List.setIfInBounds_toArray, List.set_cons_zero, List.set_cons_succ]
        refine wpAnyH_done (by kernel_rfl) ?_ _
        go_wp2_with fail
        go_roundw
        case rel => exact ⟨j + 1, by omega, by go_num, by rw [HNx.out]; exact hn2.out⟩
        case measure => (try simp [intOf]); omega
      · obtain hje : j + 1 = E.length := by omega
        have e : dwL x y (E.take (j + 1)) = L := by rw [hje, List.take_of_length_le (Nat.le_refl _), ← Hl.out]
        rw [e] at htr hdl ⊢
        clear e htr0 Hl HD
        have hi0 : (0 : Int) < (E.length : Int) := by omega
        have hi1 : ¬ (j : Int) + 1 < (E.length : Int) := by omega
        generalize E.length = N at *
        go_wp2_with fail
        go_ret2
        exact HK.out _ _ _ _ _ rfl hb0.out htr.out.1.2.2.2 htr.out.1.2.1 htr.out.1.1
end Go.Proofs.Ythfcemihaoijgaa.ersM
