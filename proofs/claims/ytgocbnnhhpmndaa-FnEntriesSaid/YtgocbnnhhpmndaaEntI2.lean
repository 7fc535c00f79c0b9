/- The contracts of the program's functions on first entries. -/
import Derived.Test.YtgocbnnhhpmndaaEntI1
import Derived.Test.YtgocbnnhhpmndaaEntQ
import Derived.Test.YtgocbnnhhpmndaaWayI1
import Derived.Test.YtgocbnnhhpmndaaPrfC
namespace Go.Proofs.Ytgocbnnhhpmndaa.entI
open Go.ChangeShapes Go.WideShapes Go.ChangeAt Go.RowKit
open draw gridP gridC gridE bitP mazeP mazeC mazeM mazeR mazeI intsP reachP reachM reachN reachD intA listK perfP perfI wayP wayI ersP ersO entP entO entQ
set_option linter.unusedVariables false

/-- And the list of steps. -/
def GS (W : World) (x y : Int) (A : Option Addr) (w : List Int) (g cg : Nat) (L : List Int) (M : Nat) (z : Int) (h ch : Nat) (F : List Int) (X : World) : Prop :=
  GM W x y A w g cg L M z X ∧ X.ownsRow (W.heap.size + 2) 3 1 (.slice (some ⟨h, 0, none⟩) F.length ch) F.length (icells F) ∧ h ≠ M
section
variable {W X X' : World} {x y z : Int} {A : Option Addr} {w L F : List Int} {g cg M h ch : Nat}
theorem GS.call (hs : GS W x y A w g cg L M z h ch F X) (hb : Below X.heap.size X X') : GS W x y A w g cg L M z h ch F X' := ⟨hs.1.call hb, own_call hs.2.1 hb, hs.2.2⟩
theorem GS.dr (hs : GS W x y A w g cg L M z h ch F X) : GS W x y A w g cg L M z h ch F X.drew := hs.call ⟨rfl, rfl, rfl, Nat.le_refl _, fun _ _ => rfl⟩
theorem GS.put (hs : GS W x y A w g cg L M z h ch F X) (z' : Int) :
    GS W x y A w g cg L M z' h ch F (((X.setCell ⟨M, 0, none⟩ (.int .i64 x)).setCell ⟨M, 1, none⟩ (.int .i64 y)).setCell ⟨M, 2, none⟩ (.int .i64 z')) := by
  obtain ⟨h1, h2, h3⟩ := hs
  have hg : X.grownBy (((X.setCell ⟨M, 0, none⟩ (.int .i64 x)).setCell ⟨M, 1, none⟩ (.int .i64 y)).setCell ⟨M, 2, none⟩ (.int .i64 z')) (some M) :=
    listK.grown_set (listK.grown_set (listK.grown_set (refl_grown X (some M)) _) _) _
  exact ⟨h1.put z', h2.kept hg (.inr fun e => h3 (by simp [Value.ownBlock] at e; exact e)), h3⟩
end

set_option maxRecDepth 100000 in
set_option maxHeartbeats 4000000 in
theorem firstEntry_any (x y a : Int) (A : Option Addr) (n c : Nat) (w : List Int) (W : World) (hn : w.length = n) (hm : n ≤ 1048576) (hi : IntsIn W W.heap.size A w) :
    Calls Try.prog 10 #[.agg #[.int .i64 x, .int .i64 y], .int .i64 a, .slice A n c] W (MzB (feX x y a w) (feY x y a w) (feZ x y a w) (feB x y a w) W) := by
  have HF := Lib.hid (fun X => fullMaze_any x y X)
  have HCo : Hid (∀ X, IntsIn X X.heap.size A w → Calls Try.prog 32 #[.agg #[.int .i64 (fmX x y), .int .i64 (fmY x y), .int .i64 (fmO x y)], .int .i64 a, .slice A n c] X (Ints (twL x y a w) X)) := Lib.hid (fun X h => cellsOn_any (fmX x y) (fmY x y) (fmO x y) a A n c w X hn hm h)
  have hrg : ∀ u ∈ twL x y a w, -9223372036854775808 ≤ u ∧ u ≤ 9223372036854775807 := co_range
  have HW := Lib.hid (fun T1 T2 => @gw_new W x y A w hi T1 T2)
  have Hn := Lib.hid hn
  clear hi hn
  generalize fmX x y = fx at *
  generalize fmY x y = fy at *
  generalize fmO x y = fo at *
  go_enter Try.func10, Try.ntmps10
  go_wp2_with fail
  have hgw0 := Lib.hid (HW.out 25 30)
  refine (HF.out _).mono ?_
  rintro e w1 ⟨rfl, hb⟩
  have hgw1 := Lib.hid (hgw0.out.call hb)
  clear hb HW hgw0 HF
  go_wp2_with fail
  refine (HCo.out _ (hgw1.out.2.2.2.more hgw1.out.1.size)).mono ?_
  rintro e w2 ⟨v2, rfl, ho, hb⟩
  have hgw2 := Lib.hid (hgw1.out.call hb)
  have ho2 := own_base ho (show W.heap.size + 2 ≤ w1.heap.size from hgw1.out.size)
  clear hb hgw1 HCo ho
  obtain ⟨⟨b0, b1⟩, -⟩ := hgw2.out.2.1
  cases htw : twB x y a w with
  | false =>
    have hL := tw_none htw
    rw [hL] at ho2
    obtain ⟨A2, c2, rfl⟩ := own_form ho2
    have HE : Hid (MzB 0 0 0 false = MzB (feX x y a w) (feY x y a w) (feZ x y a w) (feB x y a w)) := Lib.hid (by unfold feX feY feZ feB; rw [htw]; rfl)
    obtain ⟨⟨e0, e1, e2⟩, f0, f1, f2⟩ := row3_cells hgw2.out.2.2.1
    clear ho2 htw hL hrg
    go_wp2_with fail
    refine bodyPost_ret (v := .tuple #[.agg #[.int .i64 0, .int .i64 0, .int .i64 0], .bool false]) (by simp [results, Try.results10, go_sem, e0, e1, e2]) rfl ?_
    rw [← HE.out]
    exact ⟨rfl, hgw2.out.ending _ _ _⟩
  | true =>
    have hlen := tw_len htw
    have h400 := tw_far htw
    obtain ⟨g, cg, rfl, -, -⟩ := own_some ho2 (by omega)
    have HK : Hid (∀ b X, b = ipB x y (feO x y (twL x y a w) w n) → Below W.heap.size W X → MzB (feX x y a w) (feY x y a w) (feZ x y a w) (feB x y a w) W (.returned (.tuple #[.agg #[.int .i64 x, .int .i64 y, .int .i64 (feO x y (twL x y a w) w n)], .bool b])) X) := Lib.hid fun b X e hb => by
      unfold feX feY feB feZ; rw [if_pos htw, if_pos htw, if_pos htw, htw, e, Hn.out]; exact ⟨rfl, hb⟩
    have hgm0 := @Lib.hid _ (fun T => gm_new (L := twL x y a w) (g := g) (cg := cg) ⟨hgw2.out, ho2⟩ T)
    have HL1 : Hid ((twL x y a w).length = n + 1) := Lib.hid (by rw [hlen, Hn.out])
    have hn4 : n ≤ 400 := by have := Hn.out; omega
    have HSg := Lib.hid (fun z q X => setGap_any x y z q true X)
    have HGp := Lib.hid (fun k d X => gridI.gapAt_any x y k d X)
    have HIp := Lib.hid (fun z X => isPerfect_any x y z X)
    have HFe := Lib.hid (fun X (h : IntsIn X X.heap.size (some ⟨g, 0, none⟩) (twL x y a w)) => firstEntries_any (some ⟨g, 0, none⟩) (n + 1) cg (twL x y a w) X HL1.out (by omega) h hrg)
    have HFo := Lib.hid (fo_fe x y (twL x y a w) w n)
    have HFr := Lib.hid (fs_rng (twL x y a w) n)
    have hF1 := fs_one (twL x y a w) n
    have hF2 : (fsL (twL x y a w) (n + 1)).length ≤ 401 := by rw [fs_len]; have := fr_le (twL x y a w) (n + 1); omega
    clear htw hlen h400 ho2 hgw2 hm hrg
    generalize hL : twL x y a w = L at *
    rw [HL1.out]
    have hn0 : ((n : Int) + 1 == 0) = false := beq_eq_false_iff_ne.2 (by omega)
    clear hL
    go_wp2_with fail
    have hgm1 := Lib.hid (hgm0.out 30)
    generalize w2.heap.size = M at *
    refine (HFe.out _ (ints_own hgm1.out.1.2).1).mono ?_
    rintro e w3 ⟨v3, rfl, ho3, hb⟩
    have hgm3 := Lib.hid (hgm1.out.call hb)
    have hMlt := row3_lt hgm1.out.2.1
    have hlow := hgm1.out.1.1.size
    obtain ⟨h, ch, rfl, hh1, -⟩ := own_some ho3 (by omega)
    obtain ⟨hcap, hcm⟩ := own_cap ho3
    have hgs0 : Hid (GS W x y A w g cg L M 0 h ch (fsL L (n + 1)) w3) := Lib.hid ⟨hgm3.out, own_base ho3 hlow, by omega⟩
    clear hb hgm0 hgm1 hgm3 HFe ho3 hMlt hlow hh1 b0 b1
    unfold maxLen at hcm
    generalize fsL L (n + 1) = F at *
    have hi1 : (1 : Int) ≤ (F.length : Int) := by omega
    have hi2 : (F.length : Int) ≤ (ch : Int) := by omega
    by_cases hc : ch = 1
    · subst hc
      have hFl : F.length = 1 := by omega
      have hz : Hid ((0 : Int) = feO x y L w n) := Lib.hid (by
        rw [← HFo.out, List.drop_of_length_le (by omega)]; rfl)
      rw [← hz.out] at HK
      have HIpz := Lib.hid (fun X => HIp.out 0 X)
      have HE := Lib.hid (fun X hb => HK.out _ X rfl hb)
      have HnM : Hid (M ≠ W.heap.size + 1) := Lib.hid (by have := hgs0.out.1.2.2.1; omega)
      clear HIp HK HSg HGp hz HFo HFr
      rw [hFl]
      generalize ipB x y 0 = ip at *
      go_wp2_with fail
      go_loopw [27] (fun u27 wr => u27 = .int .i64 0 ∧ GS W x y A w g cg L M 0 h 1 F wr) (fun _ _ => 0)
      case atStart => exact ⟨rfl, hgs0.out⟩
      case round =>
        clear hgs0
        obtain ⟨rfl, hgs0⟩ := hrel
        have hgm := Lib.hid hgs0.1
        obtain ⟨⟨m0, m1, m2⟩, -⟩ := row3_cells hgs0.1.2.1
        clear hgs0
        go_wp2_with fail
        try simp only [List.cons_append, List.nil_append, List.append_eq]
        refine wp_region_held_drew (S := (fun w' => w'.cell? ⟨M, 0, none⟩ = some (.int .i64 x) ∧ w'.cell? ⟨M, 1, none⟩ = some (.int .i64 y) ∧ w'.cell? ⟨M, 2, none⟩ = some (.int .i64 0))) (by kernel_rfl) ?_ (fun hHeld0 => ?_)
        · (try dsimp only); go_keep
        refine wpAnyH_take (i := 0) (oi := { dst := some 49, op := Go.Op.load 30 (Go.Operand.tmp 9), type := 30, pos := "l16_entry.go:29", after := #[], guard := none }) (v := ?_) rfl (by kernel_rfl) (by kernel_rfl) (by kernel_rfl) (fun _ _ _ h => h) (Or.inl ⟨by rfl, ?_⟩) (by assumption) ?_
        rotate_left
        · (intro w hSw; (try dsimp only at hSw); go_simp; try with_reducible rfl)
        try simp only [Act.put, List.setIfInBounds_toArray, List.set_cons_zero, List.set_cons_succ]
        refine wpAnyH_take (i := 1) (oi := { dst := some 50, op := Go.Op.load 30 (Go.Operand.tmp 9), type := 30, pos := "l16_entry.go:29", after := #[], guard := none }) (v := ?_) rfl (by kernel_rfl) (by kernel_rfl) (by kernel_rfl) (fun _ _ _ h => h) (Or.inl ⟨by rfl, ?_⟩) (by assumption) ?_
        rotate_left
        · (intro w hSw; (try dsimp only at hSw); go_simp; try with_reducible rfl)
        try simp only [Act.put, List.setIfInBounds_toArray, List.set_cons_zero, List.set_cons_succ]
        refine wpAnyH_ready (rs := [2]) (by kernel_rfl) (by simp) ?_
        refine AllReadyH.cons (o := { dst := some 51, op := Go.Op.call { callee := Go.Callee.value (Go.Operand.func 37), args := #[Go.Operand.tmp 50], argTypes := #[30] }, type := 4, pos := "l16_entry.go:29", after := #[{ on := 1, ground := Go.Ground.data }], guard := none }) rfl (fun K2 hK2 => ?_) AllReadyH.nil
        go_simp
        (refine (HIpz.out _).mono ?_; rintro e v1 ⟨rfl, hb1⟩; have hk2 := Lib.hid (hgm.out.dr.call hb1); obtain ⟨⟨p1, q1, r1⟩, -⟩ := row3_cells hk2.out.2.1; obtain ⟨⟨e0, e1, e2⟩, g0, g1, g2⟩ := row3_cells hk2.out.1.1.2.2.1)
        go_wp2_with fail
        refine hK2.out _ _ ?_ (fun hHeld1 => ?_)
        · (try dsimp only); go_keep
        clear hK2 K2 hHeld0
        try simp only [Act.put, List.setIfInBounds_toArray, List.set_cons_zero, List.set_cons_succ]
        refine wpAnyH_ready (rs := [3]) (by kernel_rfl) (by simp) ?_
        refine AllReadyH.cons (o := { dst := none, op := Go.Op.store 30 (Go.Operand.tmp 6) (Go.Operand.tmp 49), type := 0, pos := "l16_entry.go:29", after := #[{ on := 0, ground := Go.Ground.data }, { on := 2, ground := Go.Ground.chain }, { on := 0, ground := Go.Ground.phase }, { on := 1, ground := Go.Ground.textOnly Go.Departure.lateStores }, { on := 2, ground := Go.Ground.textOnly Go.Departure.lateStoresUnsure }], guard := none }) rfl (fun K3 hK3 => ?_) AllReadyH.nil
        go_simp
        refine hK3.out _ _ ?_ (fun hHeld2 => ?_)
        · (try dsimp only); exact ⟨set3_keep p1 HnM.out, set3_keep q1 HnM.out, set3_keep r1 HnM.out⟩
        clear hK3 K3 hHeld1
        try simp only [Act.put, List.setIfInBounds_toArray, List.set_cons_zero, List.set_cons_succ]
        refine wpAnyH_take (i := 4) (oi := { dst := some 7, op := Go.Op.assign (Go.Operand.tmp 51), type := 4, pos := "l16_entry.go:29", after := #[{ on := 2, ground := Go.Ground.data }, { on := 3, ground := Go.Ground.chain }, { on := 0, ground := Go.Ground.phase }, { on := 1, ground := Go.Ground.phase }, { on := 2, ground := Go.Ground.phase }, { on := 3, ground := Go.Ground.phase }], guard := none }) (v := ?_) rfl (by kernel_rfl) (by kernel_rfl) (by kernel_rfl) (fun _ _ _ h => h) (Or.inl ⟨by rfl, ?_⟩) (by assumption) ?_
        rotate_left
        · (intro w hSw; (try dsimp only at hSw); go_simp; try with_reducible rfl)
        try simp only [Act.put, List.setIfInBounds_toArray, List.set_cons_zero, List.set_cons_succ]
        refine wpAnyH_done (by kernel_rfl) ?_ _
        go_wp2_with fail
        refine bodyPost_ret (v := .tuple #[.agg #[.int .i64 x, .int .i64 y, .int .i64 0], .bool ip]) (by simp [results, Try.results10, go_sem, e0, e1, e2]) rfl (HE.out _ (hk2.out.1.1.ending _ _ _))
    · go_wp2_with fail
      have hml : F.length - 1 + 1 = F.length := by omega
      have Hml := Lib.hid hml
      clear hml
      generalize hm1 : F.length - 1 = m at *
      have Hm1 := Lib.hid hm1
      have hm4 : m ≤ 401 := by omega
      clear hm1
      go_loopw [27] (fun u27 wr => ∃ j : Nat, j ≤ m ∧ u27 = .int .i64 (j : Int) ∧ GS W x y A w g cg L M (foO x y L w ((F.drop 1).take j)) h ch F wr) (fun u27 _ => m - (intOf u27).toNat)
      case atStart => exact ⟨0, Nat.zero_le _, rfl, hgs0.out⟩
      case round =>
        clear hgs0
        obtain ⟨j, hj, rfl, hgs0⟩ := hrel
        have hgs := Lib.hid hgs0
        obtain ⟨⟨b0, b1⟩, -⟩ := hgs0.1.1.1.2.1
        obtain ⟨⟨m0, m1, m2⟩, -⟩ := row3_cells hgs0.1.2.1
        have hj0 : (0 : Int) ≤ (j : Int) := Int.natCast_nonneg _
        by_cases hjm : j < m
        · obtain ⟨s, hs⟩ : ∃ s, (F.drop 1)[j]? = some s := ⟨(F.drop 1)[j]'(by rw [List.length_drop]; have := Hm1.out; omega), List.getElem?_eq_getElem _⟩
          have hs2 : F[1 + j]? = some s := by rw [← hs, List.getElem?_drop]
          obtain ⟨i, rfl, hin⟩ := HFr.out s (List.mem_of_getElem? hs)
          have HNx := Lib.hid (fo_next (x := x) (y := y) (l := L) (w := w) hs)
          have hq := at_some (l := L) (k := i) (by have := HL1.out; omega)
          have hd := at_some (l := w) (k := i) (by have := Hn.out; omega)
          have c0 := own_cellI hgs0.1.1.2 hq
          have c1 := own_cellI hgs0.2.1 hs2
          obtain ⟨ad, rfl, hab, c3⟩ := ints_cell hgs0.1.1.1.2.2.2 hd
          have hi5 : (j : Int) < (m : Int) := by omega
          have hi6 : (0 : Int) ≤ (i : Int) := Int.natCast_nonneg _
          have hi7 : (i : Int) < (n : Int) + 1 := by omega
          have hi8 : (i : Int) < (n : Int) := by omega
          have hw1 : IntKind.i64.wrap (i : Int) = (i : Int) := IntWalk.i64_in _ (by omega)
          have Hst : Hid (stO x y L w (foO x y L w ((F.drop 1).take j)) ((i : Int) + 1) = sgZ x y (foO x y L w ((F.drop 1).take j)) (geZ x y L w i) true) := Lib.hid (by
            unfold stO; rw [show ((i : Int) + 1 - 1).toNat = i by omega])
          have Hge : Hid (geZ x y L w i = gpZ x y (atN L i) (atN w i)) := Lib.hid rfl
          have HGp1 := Lib.hid (fun X => HGp.out (atN L i) (atN w i) X)
          rw [← Hge.out] at HGp1
          have HSg1 := Lib.hid (fun X => HSg.out (foO x y L w ((F.drop 1).take j)) (geZ x y L w i) X)
          have Hne : Hid (g ≠ M ∧ (ad.add i).block ≠ M ∧ W.heap.size ≠ M) := Lib.hid (by
            have h1 := hgs0.1.2.2
            rw [block_of_add]
            exact ⟨h1.2, by omega, by omega⟩)
          clear hs hs2 hq hd Hge hgs0
          generalize atN L i = q at *
          generalize atN w i = d at *
          generalize sgB x y (foO x y L w ((F.drop 1).take j)) (geZ x y L w i) = sb at *
          generalize sgZ x y (foO x y L w ((F.drop 1).take j)) (geZ x y L w i) true = z2 at *
          generalize geZ x y L w i = gg at *
          generalize foO x y L w ((F.drop 1).take j) = z at *
          go_wp2_with fail
          try simp only [List.cons_append, List.nil_append, List.append_eq]
          refine wp_region_held_drew (S := (fun w' => w'.cell? ⟨g, i, none⟩ = some (.int .i64 q) ∧ w'.cell? (ad.add i) = some (.int .i64 d) ∧ w'.cell? ⟨W.heap.size, 0, none⟩ = some (.int .i64 x) ∧ w'.cell? ⟨W.heap.size, 1, none⟩ = some (.int .i64 y))) (by kernel_rfl) ?_ (fun hHeld0 => ?_)
          · (try dsimp only); go_keep
          refine wpAnyH_take (i := 1) (oi := { dst := some 33, op := Go.Op.load 25 (Go.Operand.tmp 3), type := 25, pos := "l16_entry.go:27", after := #[], guard := none }) (v := ?_) rfl (by kernel_rfl) (by kernel_rfl) (by kernel_rfl) (fun _ _ _ h => h) (Or.inl ⟨by rfl, ?_⟩) (by assumption) ?_
          rotate_left
          · (intro w hSw; (try dsimp only at hSw); go_simp; try with_reducible rfl)
          try simp only [Act.put, List.setIfInBounds_toArray, List.set_cons_zero, List.set_cons_succ]
          refine wpAnyH_take (i := 2) (oi := { dst := some 34, op := Go.Op.move (Go.Operand.tmp 8), type := 26, pos := "l16_entry.go:27", after := #[], guard := none }) (v := ?_) rfl (by kernel_rfl) (by kernel_rfl) (by kernel_rfl) (fun _ _ _ h => h) (Or.inl ⟨by rfl, ?_⟩) (by assumption) ?_
          rotate_left
          · (intro w hSw; (try dsimp only at hSw); go_simp; try with_reducible rfl)
          try simp only [Act.put, List.setIfInBounds_toArray, List.set_cons_zero, List.set_cons_succ]
          refine wpAnyH_take (i := 3) (oi := { dst := some 35, op := Go.Op.move (Go.Operand.tmp 11), type := 3, pos := "l16_entry.go:27", after := #[], guard := none }) (v := ?_) rfl (by kernel_rfl) (by kernel_rfl) (by kernel_rfl) (fun _ _ _ h => h) (Or.inl ⟨by rfl, ?_⟩) (by assumption) ?_
          rotate_left
          · (intro w hSw; (try dsimp only at hSw); go_simp; try with_reducible rfl)
          try simp only [Act.put, List.setIfInBounds_toArray, List.set_cons_zero, List.set_cons_succ]
          refine wpAnyH_take (i := 4) (oi := { dst := some 36, op := Go.Op.binOp Go.BinOp.sub 3 (Go.Operand.tmp 35) (Go.Operand.const (Go.Value.int Go.IntKind.i64 1)) 3, type := 3, pos := "l16_entry.go:27", after := #[{ on := 3, ground := Go.Ground.data }], guard := none }) (v := ?_) rfl (by kernel_rfl) (by kernel_rfl) (by kernel_rfl) (fun _ _ _ h => h) (Or.inl ⟨by rfl, ?_⟩) (by assumption) ?_
          rotate_left
          · (intro w hSw; (try dsimp only at hSw); go_simp; try with_reducible rfl)
          try simp only [Act.put, List.setIfInBounds_toArray, List.set_cons_zero, List.set_cons_succ]
          refine wpAnyH_take (i := 5) (oi := { dst := some 37, op := Go.Op.indexAddr 26 (Go.Operand.tmp 34) (Go.Operand.tmp 36), type := 0, pos := "l16_entry.go:27", after := #[{ on := 2, ground := Go.Ground.data }, { on := 4, ground := Go.Ground.data }], guard := none }) (v := ?_) rfl (by kernel_rfl) (by kernel_rfl) (by kernel_rfl) (fun _ _ _ h => h) (Or.inl ⟨by rfl, ?_⟩) (by assumption) ?_
          rotate_left
          · (intro w hSw; (try dsimp only at hSw); go_simp; try with_reducible rfl)
          try simp only [Act.put, List.setIfInBounds_toArray, List.set_cons_zero, List.set_cons_succ]
          refine wpAnyH_take (i := 6) (oi := { dst := some 38, op := Go.Op.load 3 (Go.Operand.tmp 37), type := 3, pos := "l16_entry.go:27", after := #[{ on := 5, ground := Go.Ground.data }], guard := none }) (v := ?_) rfl (by kernel_rfl) (by kernel_rfl) (by kernel_rfl) (fun _ _ _ h => h) (Or.inl ⟨by rfl, ?_⟩) (by assumption) ?_
          rotate_left
          · (intro w hSw; (try dsimp only at hSw); go_simp; try with_reducible rfl)
          try simp only [Act.put, List.setIfInBounds_toArray, List.set_cons_zero, List.set_cons_succ]
          refine wpAnyH_take (i := 7) (oi := { dst := some 39, op := Go.Op.move (Go.Operand.tmp 2), type := 26, pos := "l16_entry.go:27", after := #[], guard := none }) (v := ?_) rfl (by kernel_rfl) (by kernel_rfl) (by kernel_rfl) (fun _ _ _ h => h) (Or.inl ⟨by rfl, ?_⟩) (by assumption) ?_
          rotate_left
          · (intro w hSw; (try dsimp only at hSw); go_simp; try with_reducible rfl)
          try simp only [Act.put, List.setIfInBounds_toArray, List.set_cons_zero, List.set_cons_succ]
          refine wpAnyH_take (i := 8) (oi := { dst := some 40, op := Go.Op.move (Go.Operand.tmp 11), type := 3, pos := "l16_entry.go:27", after := #[], guard := none }) (v := ?_) rfl (by kernel_rfl) (by kernel_rfl) (by kernel_rfl) (fun _ _ _ h => h) (Or.inl ⟨by rfl, ?_⟩) (by assumption) ?_
          rotate_left
          · (intro w hSw; (try dsimp only at hSw); go_simp; try with_reducible rfl)
          try simp only [Act.put, List.setIfInBounds_toArray, List.set_cons_zero, List.set_cons_succ]
          refine wpAnyH_take (i := 9) (oi := { dst := some 41, op := Go.Op.binOp Go.BinOp.sub 3 (Go.Operand.tmp 40) (Go.Operand.const (Go.Value.int Go.IntKind.i64 1)) 3, type := 3, pos := "l16_entry.go:27", after := #[{ on := 8, ground := Go.Ground.data }], guard := none }) (v := ?_) rfl (by kernel_rfl) (by kernel_rfl) (by kernel_rfl) (fun _ _ _ h => h) (Or.inl ⟨by rfl, ?_⟩) (by assumption) ?_
          rotate_left
          · (intro w hSw; (try dsimp only at hSw); go_simp; try with_reducible rfl)
          try simp only [Act.put, List.setIfInBounds_toArray, List.set_cons_zero, List.set_cons_succ]
          refine wpAnyH_take (i := 10) (oi := { dst := some 42, op := Go.Op.indexAddr 26 (Go.Operand.tmp 39) (Go.Operand.tmp 41), type := 0, pos := "l16_entry.go:27", after := #[{ on := 7, ground := Go.Ground.data }, { on := 9, ground := Go.Ground.data }], guard := none }) (v := ?_) rfl (by kernel_rfl) (by kernel_rfl) (by kernel_rfl) (fun _ _ _ h => h) (Or.inl ⟨by rfl, ?_⟩) (by assumption) ?_
          rotate_left
          · (intro w hSw; (try dsimp only at hSw); go_simp; try with_reducible rfl)
          try simp only [Act.put, List.setIfInBounds_toArray, List.set_cons_zero, List.set_cons_succ]
          refine wpAnyH_take (i := 11) (oi := { dst := some 43, op := Go.Op.load 3 (Go.Operand.tmp 42), type := 3, pos := "l16_entry.go:27", after := #[{ on := 10, ground := Go.Ground.data }], guard := none }) (v := ?_) rfl (by kernel_rfl) (by kernel_rfl) (by kernel_rfl) (fun _ _ _ h => h) (Or.inl ⟨by rfl, ?_⟩) (by assumption) ?_
          rotate_left
          · (intro w hSw; (try dsimp only at hSw); go_simp; try with_reducible rfl)
          try simp only [Act.put, List.setIfInBounds_toArray, List.set_cons_zero, List.set_cons_succ]
          refine wpAnyH_ready (rs := [0, 12]) (by kernel_rfl) (by simp) ?_
          refine (AllReadyH.cons (o := { dst := some 32, op := Go.Op.load 30 (Go.Operand.tmp 9), type := 30, pos := "l16_entry.go:27", after := #[], guard := none }) rfl (fun K0 hK0 => ?_) (AllReadyH.cons (o := { dst := some 44, op := Go.Op.call { callee := Go.Callee.value (Go.Operand.func 36), args := #[Go.Operand.tmp 33, Go.Operand.tmp 38, Go.Operand.tmp 43], argTypes := #[25, 3, 3] }, type := 3, pos := "l16_entry.go:27", after := #[{ on := 1, ground := Go.Ground.data }, { on := 6, ground := Go.Ground.data }, { on := 11, ground := Go.Ground.data }], guard := none }) rfl (fun K12 hK12 => ?_) AllReadyH.nil))
          go_simp
          refine hK0.out _ _ ?_ (fun hHeld1 => ?_)
          · (try dsimp only); go_keep
          clear hK0 K0 hHeld0
          try simp only [Act.put, List.setIfInBounds_toArray, List.set_cons_zero, List.set_cons_succ]
          refine wpAnyH_ready (rs := [12]) (by kernel_rfl) (by simp) ?_
          refine AllReadyH.cons (o := { dst := some 44, op := Go.Op.call { callee := Go.Callee.value (Go.Operand.func 36), args := #[Go.Operand.tmp 33, Go.Operand.tmp 38, Go.Operand.tmp 43], argTypes := #[25, 3, 3] }, type := 3, pos := "l16_entry.go:27", after := #[{ on := 1, ground := Go.Ground.data }, { on := 6, ground := Go.Ground.data }, { on := 11, ground := Go.Ground.data }], guard := none }) rfl (fun K12 hK12 => ?_) AllReadyH.nil
          go_simp
          (refine (HGp1.out _).mono ?_; rintro e v1 ⟨rfl, hb1⟩; have hg3 := Lib.hid (hgs.out.dr.call hb1); have k0 := cell_keep hb1 c0; have k3 := cell_keep hb1 c3; have k4 := cell_keep hb1 b0; have k5 := cell_keep hb1 b1; have k6 := cell_keep hb1 m0; have k7 := cell_keep hb1 m1; have k8 := cell_keep hb1 m2; clear hb1 c0 c1 c3 b0 b1 m0 m1 m2)
          go_wp2_with fail
          refine hK12.out _ _ ?_ (fun hHeld2 => ?_)
          · (try dsimp only); go_keep
          clear hK12 K12 hHeld1
          try simp only [Act.put, List.setIfInBounds_toArray, List.set_cons_zero, List.set_cons_succ]
          refine wpAnyH_ready (rs := [13]) (by kernel_rfl) (by simp) ?_
          refine AllReadyH.cons (o := { dst := some 45, op := Go.Op.call { callee := Go.Callee.value (Go.Operand.func 35), args := #[Go.Operand.tmp 32, Go.Operand.tmp 44, Go.Operand.const (Go.Value.bool true)], argTypes := #[30, 3, 4] }, type := 31, pos := "l16_entry.go:27", after := #[{ on := 0, ground := Go.Ground.data }, { on := 12, ground := Go.Ground.data }, { on := 12, ground := Go.Ground.chain }], guard := none }) rfl (fun K13 hK13 => ?_) AllReadyH.nil
          go_simp
          (refine (HSg1.out _).mono ?_; rintro e v2 ⟨rfl, hb1⟩; have hg4 := Lib.hid (hg3.out.call hb1); have l0 := cell_keep hb1 k0; have l3 := cell_keep hb1 k3; have l4 := cell_keep hb1 k4; have l5 := cell_keep hb1 k5; obtain ⟨⟨l6, l7, l8⟩, n0, n1, n2⟩ := row3_cells hg4.out.1.2.1; clear hb1 k0 k3 k4 k5 k6 k7 k8)
          go_wp2_with fail
          refine hK13.out _ _ ?_ (fun hHeld3 => ?_)
          · (try dsimp only); go_keep
          clear hK13 K13 hHeld2
          try simp only [Act.put, List.setIfInBounds_toArray, List.set_cons_zero, List.set_cons_succ]
          refine wpAnyH_take (i := 14) (oi := { dst := some 31, op := Go.Op.move (Go.Operand.tmp 45), type := 31, pos := "l16_entry.go:27", after := #[{ on := 13, ground := Go.Ground.data }], guard := none }) (v := ?_) rfl (by kernel_rfl) (by kernel_rfl) (by kernel_rfl) (fun _ _ _ h => h) (Or.inl ⟨by rfl, ?_⟩) (by assumption) ?_
          rotate_left
          · (intro w hSw; (try dsimp only at hSw); go_simp; try with_reducible rfl)
          try simp only [Act.put, List.setIfInBounds_toArray, List.set_cons_zero, List.set_cons_succ]
          refine wpAnyH_take (i := 15) (oi := { dst := some 46, op := Go.Op.extract (Go.Operand.tmp 31) 0, type := 30, pos := "l16_entry.go:27", after := #[{ on := 14, ground := Go.Ground.data }], guard := none }) (v := ?_) rfl (by kernel_rfl) (by kernel_rfl) (by kernel_rfl) (fun _ _ _ h => h) (Or.inl ⟨by rfl, ?_⟩) (by assumption) ?_
          rotate_left
          · (intro w hSw; (try dsimp only at hSw); go_simp; try with_reducible rfl)
          try simp only [Act.put, List.setIfInBounds_toArray, List.set_cons_zero, List.set_cons_succ]
          refine wpAnyH_take (i := 16) (oi := { dst := some 47, op := Go.Op.extract (Go.Operand.tmp 31) 1, type := 4, pos := "l16_entry.go:27", after := #[{ on := 14, ground := Go.Ground.data }, { on := 17, ground := Go.Ground.gcOnly Go.Departure.lateStores }], guard := none }) (v := ?_) rfl (by kernel_rfl) (by kernel_rfl) (by kernel_rfl) (fun _ _ _ h => h) (Or.inl ⟨by rfl, ?_⟩) (by assumption) ?_
          rotate_left
          · (intro w hSw; (try dsimp only at hSw); go_simp; try with_reducible rfl)
          try simp only [Act.put, List.setIfInBounds_toArray, List.set_cons_zero, List.set_cons_succ]
          refine wpAnyH_ready (rs := [17]) (by kernel_rfl) (by simp) ?_
          refine AllReadyH.cons (o := { dst := none, op := Go.Op.store 30 (Go.Operand.tmp 9) (Go.Operand.tmp 46), type := 0, pos := "l16_entry.go:27", after := #[{ on := 15, ground := Go.Ground.data }, { on := 13, ground := Go.Ground.chain }, { on := 0, ground := Go.Ground.phase }, { on := 1, ground := Go.Ground.phase }, { on := 2, ground := Go.Ground.phase }, { on := 3, ground := Go.Ground.phase }, { on := 4, ground := Go.Ground.phase }, { on := 5, ground := Go.Ground.phase }, { on := 6, ground := Go.Ground.phase }, { on := 7, ground := Go.Ground.phase }, { on := 8, ground := Go.Ground.phase }, { on := 9, ground := Go.Ground.phase }, { on := 10, ground := Go.Ground.phase }, { on := 11, ground := Go.Ground.phase }, { on := 12, ground := Go.Ground.phase }, { on := 13, ground := Go.Ground.phase }, { on := 14, ground := Go.Ground.phase }, { on := 15, ground := Go.Ground.phase }, { on := 16, ground := Go.Ground.textOnly Go.Departure.lateStores }], guard := none }) rfl (fun K17 hK17 => ?_) AllReadyH.nil
          go_simp
          refine hK17.out _ _ ?_ (fun hHeld4 => ?_)
          · (try dsimp only); exact ⟨set3_keep l0 Hne.out.1, set3_keep l3 Hne.out.2.1, set3_keep l4 Hne.out.2.2, set3_keep l5 Hne.out.2.2⟩
          clear hK17 K17 hHeld3
          try simp only [Act.put, List.setIfInBounds_toArray, List.set_cons_zero, List.set_cons_succ]
          refine wpAnyH_done (by kernel_rfl) ?_ _
          rotate_left
          go_simp
          (refine (HGp1.out _).mono ?_; rintro e v1 ⟨rfl, hb1⟩; have hg3 := Lib.hid (hgs.out.dr.call hb1); have k0 := cell_keep hb1 c0; have k3 := cell_keep hb1 c3; have k4 := cell_keep hb1 b0; have k5 := cell_keep hb1 b1; have k6 := cell_keep hb1 m0; have k7 := cell_keep hb1 m1; have k8 := cell_keep hb1 m2; clear hb1 c0 c1 c3 b0 b1 m0 m1 m2)
          go_wp2_with fail
          refine hK12.out _ _ ?_ (fun hHeld1 => ?_)
          · (try dsimp only); go_keep
          clear hK12 K12 hHeld0
          try simp only [Act.put, List.setIfInBounds_toArray, List.set_cons_zero, List.set_cons_succ]
          refine wpAnyH_ready (rs := [0]) (by kernel_rfl) (by simp) ?_
          refine AllReadyH.cons (o := { dst := some 32, op := Go.Op.load 30 (Go.Operand.tmp 9), type := 30, pos := "l16_entry.go:27", after := #[], guard := none }) rfl (fun K0 hK0 => ?_) AllReadyH.nil
          go_simp
          refine hK0.out _ _ ?_ (fun hHeld2 => ?_)
          · (try dsimp only); go_keep
          clear hK0 K0 hHeld1
          try simp only [Act.put, List.setIfInBounds_toArray, List.set_cons_zero, List.set_cons_succ]
          refine wpAnyH_ready (rs := [13]) (by kernel_rfl) (by simp) ?_
          refine AllReadyH.cons (o := { dst := some 45, op := Go.Op.call { callee := Go.Callee.value (Go.Operand.func 35), args := #[Go.Operand.tmp 32, Go.Operand.tmp 44, Go.Operand.const (Go.Value.bool true)], argTypes := #[30, 3, 4] }, type := 31, pos := "l16_entry.go:27", after := #[{ on := 0, ground := Go.Ground.data }, { on := 12, ground := Go.Ground.data }, { on := 12, ground := Go.Ground.chain }], guard := none }) rfl (fun K13 hK13 => ?_) AllReadyH.nil
          go_simp
          (refine (HSg1.out _).mono ?_; rintro e v2 ⟨rfl, hb1⟩; have hg4 := Lib.hid (hg3.out.call hb1); have l0 := cell_keep hb1 k0; have l3 := cell_keep hb1 k3; have l4 := cell_keep hb1 k4; have l5 := cell_keep hb1 k5; obtain ⟨⟨l6, l7, l8⟩, n0, n1, n2⟩ := row3_cells hg4.out.1.2.1; clear hb1 k0 k3 k4 k5 k6 k7 k8)
          go_wp2_with fail
          refine hK13.out _ _ ?_ (fun hHeld3 => ?_)
          · (try dsimp only); go_keep
          clear hK13 K13 hHeld2
          try simp only [Act.put, List.setIfInBounds_toArray, List.set_cons_zero, List.set_cons_succ]
          refine wpAnyH_take (i := 14) (oi := { dst := some 31, op := Go.Op.move (Go.Operand.tmp 45), type := 31, pos := "l16_entry.go:27", after := #[{ on := 13, ground := Go.Ground.data }], guard := none }) (v := ?_) rfl (by kernel_rfl) (by kernel_rfl) (by kernel_rfl) (fun _ _ _ h => h) (Or.inl ⟨by rfl, ?_⟩) (by assumption) ?_
          rotate_left
          · (intro w hSw; (try dsimp only at hSw); go_simp; try with_reducible rfl)
          try simp only [Act.put, List.setIfInBounds_toArray, List.set_cons_zero, List.set_cons_succ]
          refine wpAnyH_take (i := 15) (oi := { dst := some 46, op := Go.Op.extract (Go.Operand.tmp 31) 0, type := 30, pos := "l16_entry.go:27", after := #[{ on := 14, ground := Go.Ground.data }], guard := none }) (v := ?_) rfl (by kernel_rfl) (by kernel_rfl) (by kernel_rfl) (fun _ _ _ h => h) (Or.inl ⟨by rfl, ?_⟩) (by assumption) ?_
          rotate_left
          · (intro w hSw; (try dsimp only at hSw); go_simp; try with_reducible rfl)
          try simp only [Act.put, List.setIfInBounds_toArray, List.set_cons_zero, List.set_cons_succ]
          refine wpAnyH_take (i := 16) (oi := { dst := some 47, op := Go.Op.extract (Go.Operand.tmp 31) 1, type := 4, pos := "l16_entry.go:27", after := #[{ on := 14, ground := Go.Ground.data }, { on := 17, ground := Go.Ground.gcOnly Go.Departure.lateStores }], guard := none }) (v := ?_) rfl (by kernel_rfl) (by kernel_rfl) (by kernel_rfl) (fun _ _ _ h => h) (Or.inl ⟨by rfl, ?_⟩) (by assumption) ?_
          rotate_left
          · (intro w hSw; (try dsimp only at hSw); go_simp; try with_reducible rfl)
          try simp only [Act.put, List.setIfInBounds_toArray, List.set_cons_zero, List.set_cons_succ]
          refine wpAnyH_ready (rs := [17]) (by kernel_rfl) (by simp) ?_
          refine AllReadyH.cons (o := { dst := none, op := Go.Op.store 30 (Go.Operand.tmp 9) (Go.Operand.tmp 46), type := 0, pos := "l16_entry.go:27", after := #[{ on := 15, ground := Go.Ground.data }, { on := 13, ground := Go.Ground.chain }, { on := 0, ground := Go.Ground.phase }, { on := 1, ground := Go.Ground.phase }, { on := 2, ground := Go.Ground.phase }, { on := 3, ground := Go.Ground.phase }, { on := 4, ground := Go.Ground.phase }, { on := 5, ground := Go.Ground.phase }, { on := 6, ground := Go.Ground.phase }, { on := 7, ground := Go.Ground.phase }, { on := 8, ground := Go.Ground.phase }, { on := 9, ground := Go.Ground.phase }, { on := 10, ground := Go.Ground.phase }, { on := 11, ground := Go.Ground.phase }, { on := 12, ground := Go.Ground.phase }, { on := 13, ground := Go.Ground.phase }, { on := 14, ground := Go.Ground.phase }, { on := 15, ground := Go.Ground.phase }, { on := 16, ground := Go.Ground.textOnly Go.Departure.lateStores }], guard := none }) rfl (fun K17 hK17 => ?_) AllReadyH.nil
          go_simp
          refine hK17.out _ _ ?_ (fun hHeld4 => ?_)
          · (try dsimp only); exact ⟨set3_keep l0 Hne.out.1, set3_keep l3 Hne.out.2.1, set3_keep l4 Hne.out.2.2, set3_keep l5 Hne.out.2.2⟩
          clear hK17 K17 hHeld3
          try simp only [Act.put, List.setIfInBounds_toArray, List.set_cons_zero, List.set_cons_succ]
          refine wpAnyH_done (by kernel_rfl) ?_ _
          rotate_left
          all_goals
            have hg5 := Lib.hid (hg4.out.put z2)
            go_wp2_with fail
            go_roundw
            case rel => exact ⟨j + 1, by omega, by go_num, by rw [HNx.out, Hst.out]; exact hg5.out⟩
            case measure => (try simp [intOf]); omega
        · obtain rfl : j = m := by omega
          have e : foO x y L w ((F.drop 1).take j) = feO x y L w n := by rw [← HFo.out, List.take_of_length_le (by rw [List.length_drop]; have := Hm1.out; omega)]
          rw [e] at hgs m2
          have HIpz := Lib.hid (fun X => HIp.out (feO x y L w n) X)
          have HE := Lib.hid (fun X hb => HK.out _ X rfl hb)
          have HnM : Hid (M ≠ W.heap.size + 1) := Lib.hid (by have := hgs0.1.2.2.1; omega)
          have hgm := Lib.hid hgs.out.1
          clear HIp HK HSg HGp hgs0 hgs e HFo HFr
          generalize feO x y L w n = z at *
          generalize ipB x y z = ip at *
          go_wp2_with fail
          try simp only [List.cons_append, List.nil_append, List.append_eq]
          refine wp_region_held_drew (S := (fun w' => w'.cell? ⟨M, 0, none⟩ = some (.int .i64 x) ∧ w'.cell? ⟨M, 1, none⟩ = some (.int .i64 y) ∧ w'.cell? ⟨M, 2, none⟩ = some (.int .i64 z))) (by kernel_rfl) ?_ (fun hHeld0 => ?_)
          · (try dsimp only); go_keep
          refine wpAnyH_take (i := 0) (oi := { dst := some 49, op := Go.Op.load 30 (Go.Operand.tmp 9), type := 30, pos := "l16_entry.go:29", after := #[], guard := none }) (v := ?_) rfl (by kernel_rfl) (by kernel_rfl) (by kernel_rfl) (fun _ _ _ h => h) (Or.inl ⟨by rfl, ?_⟩) (by assumption) ?_
          rotate_left
          · (intro w hSw; (try dsimp only at hSw); go_simp; try with_reducible rfl)
          try simp only [Act.put, List.setIfInBounds_toArray, List.set_cons_zero, List.set_cons_succ]
          refine wpAnyH_take (i := 1) (oi := { dst := some 50, op := Go.Op.load 30 (Go.Operand.tmp 9), type := 30, pos := "l16_entry.go:29", after := #[], guard := none }) (v := ?_) rfl (by kernel_rfl) (by kernel_rfl) (by kernel_rfl) (fun _ _ _ h => h) (Or.inl ⟨by rfl, ?_⟩) (by assumption) ?_
          rotate_left
          · (intro w hSw; (try dsimp only at hSw); go_simp; try with_reducible rfl)
          try simp only [Act.put, List.setIfInBounds_toArray, List.set_cons_zero, List.set_cons_succ]
          refine wpAnyH_ready (rs := [2]) (by kernel_rfl) (by simp) ?_
          refine AllReadyH.cons (o := { dst := some 51, op := Go.Op.call { callee := Go.Callee.value (Go.Operand.func 37), args := #[Go.Operand.tmp 50], argTypes := #[30] }, type := 4, pos := "l16_entry.go:29", after := #[{ on := 1, ground := Go.Ground.data }], guard := none }) rfl (fun K2 hK2 => ?_) AllReadyH.nil
          go_simp
          (refine (HIpz.out _).mono ?_; rintro e v1 ⟨rfl, hb1⟩; have hk2 := Lib.hid (hgm.out.dr.call hb1); obtain ⟨⟨p1, q1, r1⟩, -⟩ := row3_cells hk2.out.2.1; obtain ⟨⟨e0, e1, e2⟩, g0, g1, g2⟩ := row3_cells hk2.out.1.1.2.2.1)
          go_wp2_with fail
          refine hK2.out _ _ ?_ (fun hHeld1 => ?_)
          · (try dsimp only); go_keep
          clear hK2 K2 hHeld0
          try simp only [Act.put, List.setIfInBounds_toArray, List.set_cons_zero, List.set_cons_succ]
          refine wpAnyH_ready (rs := [3]) (by kernel_rfl) (by simp) ?_
          refine AllReadyH.cons (o := { dst := none, op := Go.Op.store 30 (Go.Operand.tmp 6) (Go.Operand.tmp 49), type := 0, pos := "l16_entry.go:29", after := #[{ on := 0, ground := Go.Ground.data }, { on := 2, ground := Go.Ground.chain }, { on := 0, ground := Go.Ground.phase }, { on := 1, ground := Go.Ground.textOnly Go.Departure.lateStores }, { on := 2, ground := Go.Ground.textOnly Go.Departure.lateStoresUnsure }], guard := none }) rfl (fun K3 hK3 => ?_) AllReadyH.nil
          go_simp
          refine hK3.out _ _ ?_ (fun hHeld2 => ?_)
          · (try dsimp only); exact ⟨set3_keep p1 HnM.out, set3_keep q1 HnM.out, set3_keep r1 HnM.out⟩
          clear hK3 K3 hHeld1
          try simp only [Act.put, List.setIfInBounds_toArray, List.set_cons_zero, List.set_cons_succ]
          refine wpAnyH_take (i := 4) (oi := { dst := some 7, op := Go.Op.assign (Go.Operand.tmp 51), type := 4, pos := "l16_entry.go:29", after := #[{ on := 2, ground := Go.Ground.data }, { on := 3, ground := Go.Ground.chain }, { on := 0, ground := Go.Ground.phase }, { on := 1, ground := Go.Ground.phase }, { on := 2, ground := Go.Ground.phase }, { on := 3, ground := Go.Ground.phase }], guard := none }) (v := ?_) rfl (by kernel_rfl) (by kernel_rfl) (by kernel_rfl) (fun _ _ _ h => h) (Or.inl ⟨by rfl, ?_⟩) (by assumption) ?_
          rotate_left
          · (intro w hSw; (try dsimp only at hSw); go_simp; try with_reducible rfl)
          try simp only [Act.put, List.setIfInBounds_toArray, List.set_cons_zero, List.set_cons_succ]
          refine wpAnyH_done (by kernel_rfl) ?_ _
          go_wp2_with fail
          refine bodyPost_ret (v := .tuple #[.agg #[.int .i64 x, .int .i64 y, .int .i64 z], .bool ip]) (by simp [results, Try.results10, go_sem, e0, e1, e2]) rfl (HE.out _ (hk2.out.1.1.ending _ _ _))
end Go.Proofs.Ytgocbnnhhpmndaa.entI
