/- The law of orders: its walk, over the contracts of the program's functions. -/
import Derived.Test.YthgnhamokikhkaaPerfP
import Derived.Test.YthgnhamokikhkaaIntA
import Derived.Test.YthgnhamokikhkaaDrwA
namespace Go.Proofs.Ythgnhamokikhkaa.fnKruskals
open Go.ChangeShapes Go.WideShapes Go.ChangeAt Go.RowKit
open draw gridP gridC bitP mazeP mazeC mazeM mazeE intsP bigK reachD forest perfP intA
set_option linter.unusedVariables false

/-- The law's answer. -/
def Yes (w : World) (e : Ending) (w' : World) : Prop := e = .returned (.bool true) ∧ Below w.heap.size w w'
theorem yes_mk {w w' : World} (h : Below w.heap.size w w') : Yes w (.returned (.bool true)) w' := ⟨rfl, h⟩
/-- While an order is made: the grid's box, the order so far. -/
def GL (w : World) (b : Nat) (x y : Int) (l : List Int) (u4 : Value) (X : World) : Prop :=
  Below w.heap.size w X ∧ Box b x y X ∧ X.ownsRow (b + 1) 3 1 u4 l.length (icells l) ∧ ∀ g ∈ l, 0 ≤ g ∧ g < gpsZ x y
theorem box_grown {X X' : World} {b : Nat} {x y : Int} {row : Option Nat} (hx : Box b x y X) (hg : X.grownBy X' row) (hne : ∀ k, row = some k → b < k) : Box b x y X' := by
  obtain ⟨⟨c0, c1⟩, hl⟩ := hx
  have hr : some b ≠ row := fun e => absurd (hne b e.symm) (Nat.lt_irrefl b)
  exact ⟨⟨hg.cell c0 hr, hg.cell c1 hr⟩, Nat.lt_of_lt_of_le hl hg.size⟩
theorem GL.call {w X X' : World} {b : Nat} {x y : Int} {l : List Int} {v : Value} (h : GL w b x y l v X) (hb : Below X.heap.size X X') : GL w b x y l v X' :=
  ⟨below_call h.1 hb, h.2.1.call hb, own_call h.2.2.1 hb, h.2.2.2⟩
theorem GL.app {w X X' : World} {b gg cap : Nat} {x y g : Int} {l : List Int} {v : Value} {o : Obj} (h : GL w b x y l v X) (hw : w.heap.size ≤ b) (hg0 : 0 ≤ g ∧ g < gpsZ x y)
    (ho : X'.ownsRow (b + 1) 3 1 (.slice (some ⟨gg, 0, none⟩) (l.length + 1) cap) (l.length + 1) (icells l ++ icells [g])) (hg : (X.alloc o).grownBy X' v.ownBlock) : GL w b x y (l ++ [g]) (.slice (some ⟨gg, 0, none⟩) (l.length + 1) cap) X' := by
  obtain ⟨h1, h2, h3, h4⟩ := h
  have hz := h1.size
  refine ⟨below_app h1 (by omega) (Nat.le_refl _) h3 hg, box_grown (h2.call (below_box _ o)) hg fun k hk => by have := (h3.lt k hk).1; omega, by rw [List.length_append, icells_append]; exact ho, fun g' hg' => ?_⟩
  rcases List.mem_append.1 hg' with h' | h'
  · exact h4 g' h'
  · obtain rfl : g' = g := by simpa using h'
    exact hg0

set_option maxRecDepth 100000 in
set_option maxHeartbeats 4000000 in
theorem walk_at (A : Option Addr) (n c : Nat) (w : World) (hn : n ≤ maxLen) (hb : BytesIn w w.heap.size A n)
    (HKm : Hid (∀ x y A n c l X, l.length = n → n ≤ 1048576 → IntsIn X X.heap.size A l → Calls Try.prog 28 #[.agg #[.int .i64 x, .int .i64 y], .slice A n c] X (MzB (kmX x y l) (kmY x y l) (kmZ x y l) (kmB x y l) X)))
    (HWj : Hid (∀ x y z g X, Calls Try.prog 29 #[.agg #[.int .i64 x, .int .i64 y, .int .i64 z], .int .i64 g] X (Bl (wjB x y z g) X)))
    (HIp : Hid (∀ x y z X, Calls Try.prog 24 #[.agg #[.int .i64 x, .int .i64 y, .int .i64 z]] X (Bl (ipB x y z) X)))
    (HPs : Hid (∀ x y z g X, Calls Try.prog 21 #[.agg #[.int .i64 x, .int .i64 y, .int .i64 z], .int .i64 g] X (Bl (psB x y z g) X))) :
    Calls Try.prog 4 #[.slice A n c] w (Yes w) := by
  obtain ⟨i0, hi0, hz0, hz1, hz2⟩ := info_parts info_int
  have HK := @Lib.hid _ (fun w' h => @yes_mk w w' h)
  have HR := Lib.hid (Below.refl w.heap.size w)
  have HD := Lib.hid (drawGrid_any A n c w hn hb)
  have HY := Lib.hid hb
  have HN := Lib.hid hn
  unfold maxLen at hn
  clear hb
  by_cases hbig : 1048576 < n
  · go_enter Try.func4, Try.ntmps4
    go_wp2_with fail
    refine (big_yes A n c w HN.out hbig).mono ?_
    rintro e w' ⟨rfl, rfl⟩
    go_wp2_with fail
    go_ret
    exact HK.out _ HR.out
  · go_enter Try.func4, Try.ntmps4
    go_wp2_with fail
    refine (big_no A n c w HN.out (by omega)).mono ?_
    rintro e w' ⟨rfl, rfl⟩
    go_wp2_with fail
    refine HD.out.mono ?_
    rintro e w1 ⟨x, y, hk, rfl, hb1⟩
    obtain ⟨h1, h2, h3, h4⟩ := id hk
    have hgp := gps_bd h1 h2 h3 h4
    have HG : Hid (∀ X, Calls Try.prog 20 #[.agg #[.int .i64 x, .int .i64 y]] X (Nm (gpsZ x y) X)) := fun X => gridS.countGaps_yes x y X h1 h2 h3 h4
    have hz1' := hb1.size
    have HB1 := Lib.hid (fun (T : TypeId) => ((hb1.alloc (Nat.le_trans (Nat.le_refl _) hz1') (.cells #[.int .i64 x, .int .i64 y] T)) : Below w.heap.size w (w1.alloc (.cells #[.int .i64 x, .int .i64 y] T))))
    have hgl0 : Hid (∀ T : TypeId, GL w w1.heap.size x y [] (.slice (some ⟨w1.heap.size + 1, 0, none⟩) 0 0) ((w1.alloc (.cells #[.int .i64 x, .int .i64 y] T)).alloc (.cells #[] 3))) := fun T => by
      refine ⟨below_call (HB1.out T) (below_box _ _), (box_new x y w1 T).call (below_box _ _), ?_, fun g hg => by cases hg⟩
      have := World.ownsRow_lit (base := w1.heap.size + 1) (e := 3) (size := 1) (w1.alloc (.cells #[.int .i64 x, .int .i64 y] T)) #[] 0 (by simp) (by decide) rfl
      simpa [icells] using this
    have Hk := Lib.hid hk
    obtain ⟨G, hG⟩ := Int.eq_ofNat_of_zero_le hgp.1
    rw [hG] at HG hgp
    have HGG := Lib.hid hG
    have HY1 := Lib.hid (fun X (h : Below w.heap.size w X) => (HY.out.keep (w' := X) fun p hp => h.cell hp))
    clear hb1 h1 h2 h3 h4 HD HR HY hG hk HB1
    go_wp2_with fail
    refine (HG.out _).mono ?_
    rintro e w2 ⟨rfl, hb⟩
    have hgl1 := Lib.hid ((hgl0.out _).call hb)
    clear hb hgl0
    go_wp2_with fail
    go_loopw [4, 6] (fun u4 u6 wr => ∃ (k : Nat) (l : List Int), k ≤ G ∧ u6 = .int .i64 k ∧ l.length = k ∧ GL w w1.heap.size x y l u4 wr) (fun _ u6 _ => G - (intOf u6).toNat)
    case atStart => exact ⟨0, [], Nat.zero_le _, rfl, rfl, hgl1.out⟩
    case round =>
      clear hgl1
      obtain ⟨k, l, hk, rfl, hlk, hgl0⟩ := hrel
      have hgl := Lib.hid hgl0
      obtain ⟨Av, cv, rfl⟩ := own_form hgl0.2.2.1
      have hll : l.length ≤ 24 := by omega
      have HLk := Lib.hid hlk
      clear hgl0 hlk
      by_cases hkG : k < G
      · have hk0 : (0 : Int) ≤ (k : Int) := Int.natCast_nonneg _
        have hk1 : (k : Int) < (G : Int) := by omega
        have HAt := Lib.hid (at_any A n c (k : Int) wr w.heap.size HN.out (HY1.out _ hgl.out.1) hk0 (by omega))
        have hG0 : ((G : Int) = 0) = False := by simp; omega
        go_wp2_with fail
        refine HAt.out.mono ?_
        rintro e w3 ⟨a, ha, rfl, rfl⟩
        obtain ⟨r, hr⟩ : ∃ r : Int, (a : Int) % (G : Int) = r := ⟨_, rfl⟩
        have hr1 : 0 ≤ r ∧ r < (G : Int) := by
          have h1 := Int.emod_nonneg (a : Int) (show (G : Int) ≠ 0 by omega)
          have h2 := Int.emod_lt_of_pos (a : Int) (show (0 : Int) < G by omega)
          omega
        have q2 : (a : Int).tmod (G : Int) = r := by rw [IntWalk.rem_in _ _ (by omega), hr]
        have HN2 := @Lib.hid _ (fun X' gg cap ob p1 p2 => @GL.app w wr X' w1.heap.size gg cap x y r l _ ob hgl.out hz1' (by rw [HGG.out]; exact hr1) p1 p2)
        have hbz := hgl.out.2.1.2
        have hsz := hgl.out.1.size
        clear hr HAt
        go_wp2_with (at_builtin; refine wpList_append_lies _ rfl (.tmp 23) (.tmp 29) 34 rfl (w1.heap.size + 1) 3 i0 _ 1 8 Try.underlying34 hi0 hz0 hz1 hz2 rfl (by omega) _ l.length _ rfl (hgl.out.2.2.1.alloc _) ⟨wr.heap.size, 0, none⟩ 1 1 (icells [r]) rfl rfl (news_eqI rfl (heap_alloc_new wr _)) (oneCellI _) (by omega) (by unfold maxLen; omega) (by omega) (by simp; omega) (wr.heap.size + 1) (by simp) ?_; intro gg cap w3 hown' hgrow hat hlt2; clear hat hlt2)
        go_roundw
        case rel => exact ⟨k + 1, l ++ [r], by omega, by go_num, by have := HLk.out; simp; omega, HN2.out _ _ _ _ hown' hgrow⟩
        case measure => simp [intOf]; omega
      · obtain rfl : k = G := by omega
        go_wp2_with fail
        go_loopw [4, 7] (fun u4 u7 wr => ∃ (j : Nat) (l : List Int), j ≤ k ∧ u7 = .int .i64 j ∧ l.length = k + j ∧ (∀ i : Nat, i < j → (i : Int) ∈ l) ∧ GL w w1.heap.size x y l u4 wr) (fun _ u7 _ => k - (intOf u7).toNat)
        case atStart => exact ⟨0, l, Nat.zero_le _, rfl, by have := HLk.out; omega, fun i hi => absurd hi (by omega), hgl.out⟩
        case round =>
          clear hgl HLk
          obtain ⟨j, l, hj, rfl, hlk, hmem, hgl0⟩ := hrel
          have hgl := Lib.hid hgl0
          obtain ⟨Av, cv, rfl⟩ := own_form hgl0.2.2.1
          have HMem := Lib.hid hmem
          have hll : l.length ≤ 48 := by omega
          have HLk := Lib.hid hlk
          clear hgl0 hmem hlk
          by_cases hjk : j < k
          · have HN2 := @Lib.hid _ (fun X' gg cap ob p1 p2 => @GL.app w wr X' w1.heap.size gg cap x y (j : Int) l _ ob hgl.out hz1' (by rw [HGG.out]; omega) p1 p2)
            have hbz := hgl.out.2.1.2
            have hsz := hgl.out.1.size
            have HM2 : Hid (∀ i : Nat, i < j + 1 → (i : Int) ∈ l ++ [(j : Int)]) := fun i hi => by
              rcases Nat.lt_or_ge i j with h | h
              · exact List.mem_append.2 (.inl (HMem.out i h))
              · obtain rfl : i = j := by omega
                simp
            go_wp2_with (at_builtin; refine wpList_append_lies _ rfl (.tmp 36) (.tmp 38) 34 rfl (w1.heap.size + 1) 3 i0 _ 1 8 Try.underlying34 hi0 hz0 hz1 hz2 rfl (by omega) _ l.length _ rfl (hgl.out.2.2.1.alloc _) ⟨wr.heap.size, 0, none⟩ 1 1 (icells [(j : Int)]) rfl rfl (news_eqI rfl (heap_alloc_new wr _)) (oneCellI _) (by omega) (by unfold maxLen; omega) (by omega) (by simp; omega) (wr.heap.size + 1) (by simp) ?_; intro gg cap w3 hown' hgrow hat hlt2; clear hat hlt2)
            go_roundw
            case rel => exact ⟨j + 1, l ++ [(j : Int)], by omega, by go_num, by have := HLk.out; simp; omega, HM2.out, HN2.out _ _ _ _ hown' hgrow⟩
            case measure => simp [intOf]; omega
          · obtain rfl : j = k := by omega
            have hlk := HLk.out
            have hall : ∀ i : Nat, (i : Int) < gpsZ x y → (i : Int) ∈ l := fun i hi => HMem.out i (by rw [HGG.out] at hi; omega)
            have hrange := hgl.out.2.2.2
            obtain ⟨f1, f2, f3⟩ := kruskals Hk.out hrange hall
            have hko : koB x y l = true := decide_eq_true ⟨Hk.out, by omega, hrange⟩
            have e1 : kmX x y l = x := by unfold kmX; rw [if_pos hko]
            have e2 : kmY x y l = y := by unfold kmY; rw [if_pos hko]
            have e3 : kmZ x y l = kzL x y l 0 := by unfold kmZ; rw [if_pos hko]
            have e4 : kmB x y l = true := by unfold kmB; rw [hko, f2]; rfl
            have HKr := Lib.hid (fun X (h : IntsIn X X.heap.size Av l) => HKm.out x y Av l.length cv l X rfl (by omega) h)
            rw [e1, e2, e3, e4] at HKr
            have F1 : Hid (∀ g : Nat, g < j → wjB x y (kzL x y l 0) g = false) := fun g hg => f1 g (by rw [HGG.out]; omega)
            have F3 := Lib.hid f3
            generalize hz : kzL x y l 0 = z at *
            have A1 := Lib.hid (fun g X => HWj.out x y z g X)
            have A2 := Lib.hid (HIp.out x y z)
            have A3 := Lib.hid (fun g X => HPs.out x y z g X)
            rw [f2] at A2
            obtain ⟨⟨b0, b1⟩, -⟩ := hgl.out.2.1
            have HI1 := Lib.hid (ints_own hgl.out.2.2.1).1
            clear HKm HWj HIp HPs f1 f2 f3 hall hrange hko e1 e2 e3 e4 hz hlk
            go_wp2_with fail
            refine (HKr.out _ HI1.out).mono ?_
            rintro e w5 ⟨rfl, hb⟩
            have hgl5 := Lib.hid (hgl.out.call hb)
            have hbl6 := Lib.hid (fun T : TypeId => below_call hgl5.out.1 (below_box w5 (.cells #[.int .i64 x, .int .i64 y, .int .i64 z] T)))
            have hxm6 := Lib.hid (fun T : TypeId => mbox_new x y z w5 T)
            have ho6 := Lib.hid (fun o => own_call hgl5.out.2.2.1 (below_box w5 o))
            clear hb hgl hgl5 HI1 b0 b1 HMem
            go_wp2_with fail
            generalize w5.heap.size = M at *
            go_loopw [10] (fun u10 wq => ∃ i : Nat, i ≤ j ∧ u10 = .int .i64 i ∧ Below w.heap.size w wq ∧ MBox M x y z wq ∧ wq.ownsRow (w1.heap.size + 1) 3 1 (.slice Av l.length cv) l.length (icells l)) (fun u10 _ => j - (intOf u10).toNat)
            case atStart => exact ⟨0, Nat.zero_le _, rfl, hbl6.out _, hxm6.out _, ho6.out _⟩
            case round =>
              clear hbl6 hxm6 ho6
              obtain ⟨i, hi, rfl, hbl', hxm', ho'⟩ := hrel
              have hbl10 := Lib.hid hbl'
              have hxm10 := Lib.hid hxm'
              have ho10 := Lib.hid ho'
              obtain ⟨m0, m1, m2⟩ := hxm'.1
              clear hbl' hxm' ho'
              by_cases hij : i < j
              · have A1i := Lib.hid (fun X => A1.out i X)
                rw [F1.out i hij] at A1i
                go_wp2_with fail
                refine (A1i.out _).mono ?_
                rintro e w11 ⟨rfl, hb⟩
                have hbl11 := Lib.hid (below_call hbl10.out hb)
                have hxm11 := Lib.hid (hxm10.out.call hb)
                have ho11 := Lib.hid (own_call ho10.out hb)
                clear hb hbl10 ho10 hxm10 m0 m1 m2
                obtain ⟨m0, m1, m2⟩ := hxm11.out.1
                go_wp2_with fail
                go_roundw
                case rel => exact ⟨i + 1, by omega, by go_num, hbl11.out, hxm11.out, ho11.out⟩
                case measure => simp [intOf]; omega
              · obtain rfl : i = j := by omega
                have hlk := HLk.out
                clear F1 A1
                rcases Nat.eq_zero_or_pos i with h0 | h0
                · subst h0
                  have hx := hxm10.out
                  go_wp2_with fail
                  try simp only [List.cons_append, List.nil_append, List.append_eq]
                  refine wp_region_held_drew (S := (fun w' => w'.cell? ⟨M, 0, none⟩ = some (.int .i64 x) ∧ w'.cell? ⟨M, 1, none⟩ = some (.int .i64 y) ∧ w'.cell? ⟨M, 2, none⟩ = some (.int .i64 z))) (by kernel_rfl) ?_ (fun hHeld0 => ?_)
                  · (try dsimp only); go_keep
                  refine wpAnyH_take (i := 0) (oi := { dst := some 54, op := Go.Op.move (Go.Operand.tmp 9), type := 4, pos := "laws.go:231", after := #[], guard := none }) (v := ?_) rfl (by kernel_rfl) (by kernel_rfl) (by kernel_rfl) (fun _ _ _ h => h) (Or.inl ⟨by rfl, ?_⟩) (by assumption) ?_
                  rotate_left
                  · (intro w hSw; (try dsimp only at hSw); go_simp; try with_reducible rfl)
                  try simp only [Act.put, List.setIfInBounds_toArray, List.set_cons_zero, List.set_cons_succ]
                  refine wpAnyH_take (i := 1) (oi := { dst := some 55, op := Go.Op.move (Go.Operand.tmp 54), type := 4, pos := "laws.go:231", after := #[{ on := 0, ground := Go.Ground.data }], guard := none }) (v := ?_) rfl (by kernel_rfl) (by kernel_rfl) (by kernel_rfl) (fun _ _ _ h => h) (Or.inl ⟨by rfl, ?_⟩) (by assumption) ?_
                  rotate_left
                  · (intro w hSw; (try dsimp only at hSw); go_simp; try with_reducible rfl)
                  try simp only [Act.put, List.setIfInBounds_toArray, List.set_cons_zero, List.set_cons_succ]
                  refine wpAnyH_take (i := 2) (oi := { dst := some 56, op := Go.Op.load 27 (Go.Operand.tmp 8), type := 27, pos := "laws.go:231", after := #[{ on := 1, ground := Go.Ground.guard }], guard := some (1, true) }) (v := ?_) rfl (by kernel_rfl) (by kernel_rfl) (by kernel_rfl) (fun _ _ _ h => h) (Or.inl ⟨by rfl, ?_⟩) (by assumption) ?_
                  rotate_left
                  · (intro w hSw; (try dsimp only at hSw); go_simp; try with_reducible rfl)
                  try simp only [Act.put, List.setIfInBounds_toArray, List.set_cons_zero, List.set_cons_succ]
                  refine wpAnyH_ready (rs := [3]) (by kernel_rfl) (by simp) ?_
                  refine AllReadyH.cons (o := { dst := some 57, op := Go.Op.call { callee := Go.Callee.value (Go.Operand.func 24), args := #[Go.Operand.tmp 56], argTypes := #[27] }, type := 4, pos := "laws.go:231", after := #[{ on := 2, ground := Go.Ground.data }, { on := 1, ground := Go.Ground.chain }, { on := 1, ground := Go.Ground.guard }], guard := some (1, true) }) rfl (fun K3 hK3 => ?_) AllReadyH.nil
                  go_simp
                  (refine (A2.out _).mono ?_; rintro e v1 ⟨rfl, hb1⟩; have hM1 := Lib.hid (mbox_after hb1 hx); obtain ⟨p1, q1, r1⟩ := hM1.out.1)
                  go_wp2_with fail
                  refine hK3.out _ _ ?_ (fun hHeld1 => ?_)
                  · (try dsimp only); go_keep
                  clear hK3 K3 hHeld0
                  try simp only [Act.put, List.setIfInBounds_toArray, List.set_cons_zero, List.set_cons_succ]
                  refine wpAnyH_take (i := 4) (oi := { dst := some 58, op := Go.Op.pick (Go.Operand.tmp 55) (Go.Operand.tmp 57) (Go.Operand.const (Go.Value.bool false)), type := 4, pos := "laws.go:231", after := #[{ on := 1, ground := Go.Ground.data }, { on := 3, ground := Go.Ground.data }], guard := none }) (v := ?_) rfl (by kernel_rfl) (by kernel_rfl) (by kernel_rfl) (fun _ _ _ h => h) (Or.inl ⟨by rfl, ?_⟩) (by assumption) ?_
                  rotate_left
                  · (intro w hSw; (try dsimp only at hSw); go_simp; try with_reducible rfl)
                  try simp only [Act.put, List.setIfInBounds_toArray, List.set_cons_zero, List.set_cons_succ]
                  refine wpAnyH_take (i := 5) (oi := { dst := some 59, op := Go.Op.move (Go.Operand.tmp 58), type := 4, pos := "laws.go:231", after := #[{ on := 4, ground := Go.Ground.data }, { on := 3, ground := Go.Ground.chain }], guard := none }) (v := ?_) rfl (by kernel_rfl) (by kernel_rfl) (by kernel_rfl) (fun _ _ _ h => h) (Or.inl ⟨by rfl, ?_⟩) (by assumption) ?_
                  rotate_left
                  · (intro w hSw; (try dsimp only at hSw); go_simp; try with_reducible rfl)
                  try simp only [Act.put, List.setIfInBounds_toArray, List.set_cons_zero, List.set_cons_succ]
                  refine wpAnyH_take (i := 6) (oi := { dst := some 60, op := Go.Op.move (Go.Operand.tmp 5), type := 3, pos := "laws.go:231", after := #[{ on := 5, ground := Go.Ground.guard }], guard := some (5, true) }) (v := ?_) rfl (by kernel_rfl) (by kernel_rfl) (by kernel_rfl) (fun _ _ _ h => h) (Or.inl ⟨by rfl, ?_⟩) (by assumption) ?_
                  rotate_left
                  · (intro w hSw; (try dsimp only at hSw); go_simp; try with_reducible rfl)
                  try simp only [Act.put, List.setIfInBounds_toArray, List.set_cons_zero, List.set_cons_succ]
                  refine wpAnyH_take (i := 7) (oi := { dst := some 61, op := Go.Op.binOp Go.BinOp.eql 3 (Go.Operand.tmp 60) (Go.Operand.const (Go.Value.int Go.IntKind.i64 0)) 3, type := 4, pos := "laws.go:231", after := #[{ on := 6, ground := Go.Ground.data }, { on := 5, ground := Go.Ground.guard }], guard := some (5, true) }) (v := ?_) rfl (by kernel_rfl) (by kernel_rfl) (by kernel_rfl) (fun _ _ _ h => h) (Or.inl ⟨by rfl, ?_⟩) (by assumption) ?_
                  rotate_left
                  · (intro w hSw; (try dsimp only at hSw); go_simp; try with_reducible rfl)
                  try simp only [Act.put, List.setIfInBounds_toArray, List.set_cons_zero, List.set_cons_succ]
                  refine wpAnyH_take (i := 8) (oi := { dst := some 62, op := Go.Op.move (Go.Operand.tmp 61), type := 4, pos := "laws.go:231", after := #[{ on := 7, ground := Go.Ground.data }, { on := 5, ground := Go.Ground.chain }, { on := 5, ground := Go.Ground.guard }], guard := some (5, true) }) (v := ?_) rfl (by kernel_rfl) (by kernel_rfl) (by kernel_rfl) (fun _ _ _ h => h) (Or.inl ⟨by rfl, ?_⟩) (by assumption) ?_
                  rotate_left
                  · (intro w hSw; (try dsimp only at hSw); go_simp; try with_reducible rfl)
                  try simp only [Act.put, List.setIfInBounds_toArray, List.set_cons_zero, List.set_cons_succ]
                  refine wpAnyH_take (i := 9) (oi := { dst := some 63, op := Go.Op.load 27 (Go.Operand.tmp 8), type := 27, pos := "laws.go:231", after := #[{ on := 8, ground := Go.Ground.guard }], guard := some (8, false) }) (v := undef) rfl (by kernel_rfl) (by kernel_rfl) (by kernel_rfl) (fun _ _ _ h => h) (Or.inr ⟨by rfl, rfl⟩) (by assumption) ?_
                  try simp only [Act.put, List.setIfInBounds_toArray, List.set_cons_zero, List.set_cons_succ]
                  refine wpAnyH_take (i := 10) (oi := { dst := some 64, op := Go.Op.move (Go.Operand.tmp 4), type := 34, pos := "laws.go:231", after := #[{ on := 8, ground := Go.Ground.guard }], guard := some (8, false) }) (v := undef) rfl (by kernel_rfl) (by kernel_rfl) (by kernel_rfl) (fun _ _ _ h => h) (Or.inr ⟨by rfl, rfl⟩) (by assumption) ?_
                  try simp only [Act.put, List.setIfInBounds_toArray, List.set_cons_zero, List.set_cons_succ]
                  refine wpAnyH_take (i := 11) (oi := { dst := some 65, op := Go.Op.indexAddr 34 (Go.Operand.tmp 64) (Go.Operand.const (Go.Value.int Go.IntKind.i64 0)), type := 0, pos := "laws.go:231", after := #[{ on := 10, ground := Go.Ground.data }, { on := 8, ground := Go.Ground.guard }], guard := some (8, false) }) (v := undef) rfl (by kernel_rfl) (by kernel_rfl) (by kernel_rfl) (fun _ _ _ h => h) (Or.inr ⟨by rfl, rfl⟩) (by assumption) ?_
                  try simp only [Act.put, List.setIfInBounds_toArray, List.set_cons_zero, List.set_cons_succ]
                  refine wpAnyH_take (i := 12) (oi := { dst := some 66, op := Go.Op.load 3 (Go.Operand.tmp 65), type := 3, pos := "laws.go:231", after := #[{ on := 11, ground := Go.Ground.data }, { on := 8, ground := Go.Ground.guard }], guard := some (8, false) }) (v := undef) rfl (by kernel_rfl) (by kernel_rfl) (by kernel_rfl) (fun _ _ _ h => h) (Or.inr ⟨by rfl, rfl⟩) (by assumption) ?_
                  try simp only [Act.put, List.setIfInBounds_toArray, List.set_cons_zero, List.set_cons_succ]
                  refine wpAnyH_take (i := 13) (oi := { dst := some 67, op := Go.Op.call { callee := Go.Callee.value (Go.Operand.func 21), args := #[Go.Operand.tmp 63, Go.Operand.tmp 66], argTypes := #[27, 3] }, type := 4, pos := "laws.go:231", after := #[{ on := 9, ground := Go.Ground.data }, { on := 12, ground := Go.Ground.data }, { on := 8, ground := Go.Ground.chain }, { on := 8, ground := Go.Ground.guard }], guard := some (8, false) }) (v := undef) rfl (by kernel_rfl) (by kernel_rfl) (by kernel_rfl) (fun _ _ _ h => h) (Or.inr ⟨by rfl, rfl⟩) (by assumption) ?_
                  try simp only [Act.put, List.setIfInBounds_toArray, List.set_cons_zero, List.set_cons_succ]
                  refine wpAnyH_take (i := 14) (oi := { dst := some 68, op := Go.Op.pick (Go.Operand.tmp 62) (Go.Operand.const (Go.Value.bool true)) (Go.Operand.tmp 67), type := 4, pos := "laws.go:231", after := #[{ on := 8, ground := Go.Ground.data }, { on := 13, ground := Go.Ground.data }, { on := 5, ground := Go.Ground.guard }], guard := some (5, true) }) (v := ?_) rfl (by kernel_rfl) (by kernel_rfl) (by kernel_rfl) (fun _ _ _ h => h) (Or.inl ⟨by rfl, ?_⟩) (by assumption) ?_
                  rotate_left
                  · (intro w hSw; (try dsimp only at hSw); go_simp; try with_reducible rfl)
                  try simp only [Act.put, List.setIfInBounds_toArray, List.set_cons_zero, List.set_cons_succ]
                  refine wpAnyH_take (i := 15) (oi := { dst := some 69, op := Go.Op.pick (Go.Operand.tmp 59) (Go.Operand.tmp 68) (Go.Operand.const (Go.Value.bool false)), type := 4, pos := "laws.go:231", after := #[{ on := 5, ground := Go.Ground.data }, { on := 14, ground := Go.Ground.data }], guard := none }) (v := ?_) rfl (by kernel_rfl) (by kernel_rfl) (by kernel_rfl) (fun _ _ _ h => h) (Or.inl ⟨by rfl, ?_⟩) (by assumption) ?_
                  rotate_left
                  · (intro w hSw; (try dsimp only at hSw); go_simp; try with_reducible rfl)
                  try simp only [Act.put, List.setIfInBounds_toArray, List.set_cons_zero, List.set_cons_succ]
                  refine wpAnyH_take (i := 16) (oi := { dst := some 2, op := Go.Op.assign (Go.Operand.tmp 69), type := 4, pos := "laws.go:231", after := #[{ on := 15, ground := Go.Ground.data }, { on := 13, ground := Go.Ground.chain }, { on := 0, ground := Go.Ground.phase }, { on := 1, ground := Go.Ground.phase }, { on := 2, ground := Go.Ground.phase }, { on := 3, ground := Go.Ground.phase }, { on := 4, ground := Go.Ground.phase }, { on := 5, ground := Go.Ground.phase }, { on := 6, ground := Go.Ground.phase }, { on := 7, ground := Go.Ground.phase }, { on := 8, ground := Go.Ground.phase }, { on := 9, ground := Go.Ground.phase }, { on := 10, ground := Go.Ground.phase }, { on := 11, ground := Go.Ground.phase }, { on := 12, ground := Go.Ground.phase }, { on := 13, ground := Go.Ground.phase }, { on := 14, ground := Go.Ground.phase }, { on := 15, ground := Go.Ground.phase }], guard := none }) (v := ?_) rfl (by kernel_rfl) (by kernel_rfl) (by kernel_rfl) (fun _ _ _ h => h) (Or.inl ⟨by rfl, ?_⟩) (by assumption) ?_
                  rotate_left
                  · (intro w hSw; (try dsimp only at hSw); go_simp; try with_reducible rfl)
                  try simp only [Act.put, List.setIfInBounds_toArray, List.set_cons_zero, List.set_cons_succ]
                  refine wpAnyH_done (by kernel_rfl) ?_ _
                  go_wp2_with fail
                  go_ret
                  exact HK.out _ (below_call (below_dr hbl10.out) hb1)
                · have hi0 : ((i : Int) == 0) = false := by simp; omega
                  have hd := List.getElem?_eq_getElem (show 0 < l.length by omega)
                  have hps := F3.out _ hd
                  generalize l[0] = g0 at hd hps
                  have A3i := Lib.hid (fun X => A3.out g0 X)
                  rw [hps] at A3i
                  obtain ⟨gb, cg, hge, hg, hgs⟩ := own_some ho10.out (by omega)
                  cases hge
                  have hcell : wr.cell? ⟨gb, 0, none⟩ = some (.int .i64 g0) := first_cell ho10.out hd
                  have hlp : 0 < l.length := by omega
                  have HD0 := Lib.hid hd
                  have hx := Lib.hid hxm10.out
                  have hO := Lib.hid ho10.out
                  clear hps hd F3 A3 h0 hg hgs hlk
                  go_wp2_with fail
                  try simp only [List.cons_append, List.nil_append, List.append_eq]
                  refine wp_region_held_drew (S := (fun w' => w'.cell? ⟨M, 0, none⟩ = some (.int .i64 x) ∧ w'.cell? ⟨M, 1, none⟩ = some (.int .i64 y) ∧ w'.cell? ⟨M, 2, none⟩ = some (.int .i64 z) ∧ w'.cell? ⟨gb, 0, none⟩ = some (.int .i64 g0))) (by kernel_rfl) ?_ (fun hHeld0 => ?_)
                  · (try dsimp only); go_keep
                  refine wpAnyH_take (i := 0) (oi := { dst := some 54, op := Go.Op.move (Go.Operand.tmp 9), type := 4, pos := "laws.go:231", after := #[], guard := none }) (v := ?_) rfl (by kernel_rfl) (by kernel_rfl) (by kernel_rfl) (fun _ _ _ h => h) (Or.inl ⟨by rfl, ?_⟩) (by assumption) ?_
                  rotate_left
                  · (intro w hSw; (try dsimp only at hSw); go_simp; try with_reducible rfl)
                  try simp only [Act.put, List.setIfInBounds_toArray, List.set_cons_zero, List.set_cons_succ]
                  refine wpAnyH_take (i := 1) (oi := { dst := some 55, op := Go.Op.move (Go.Operand.tmp 54), type := 4, pos := "laws.go:231", after := #[{ on := 0, ground := Go.Ground.data }], guard := none }) (v := ?_) rfl (by kernel_rfl) (by kernel_rfl) (by kernel_rfl) (fun _ _ _ h => h) (Or.inl ⟨by rfl, ?_⟩) (by assumption) ?_
                  rotate_left
                  · (intro w hSw; (try dsimp only at hSw); go_simp; try with_reducible rfl)
                  try simp only [Act.put, List.setIfInBounds_toArray, List.set_cons_zero, List.set_cons_succ]
                  refine wpAnyH_take (i := 2) (oi := { dst := some 56, op := Go.Op.load 27 (Go.Operand.tmp 8), type := 27, pos := "laws.go:231", after := #[{ on := 1, ground := Go.Ground.guard }], guard := some (1, true) }) (v := ?_) rfl (by kernel_rfl) (by kernel_rfl) (by kernel_rfl) (fun _ _ _ h => h) (Or.inl ⟨by rfl, ?_⟩) (by assumption) ?_
                  rotate_left
                  · (intro w hSw; (try dsimp only at hSw); go_simp; try with_reducible rfl)
                  try simp only [Act.put, List.setIfInBounds_toArray, List.set_cons_zero, List.set_cons_succ]
                  refine wpAnyH_ready (rs := [3]) (by kernel_rfl) (by simp) ?_
                  refine AllReadyH.cons (o := { dst := some 57, op := Go.Op.call { callee := Go.Callee.value (Go.Operand.func 24), args := #[Go.Operand.tmp 56], argTypes := #[27] }, type := 4, pos := "laws.go:231", after := #[{ on := 2, ground := Go.Ground.data }, { on := 1, ground := Go.Ground.chain }, { on := 1, ground := Go.Ground.guard }], guard := some (1, true) }) rfl (fun K3 hK3 => ?_) AllReadyH.nil
                  go_simp
                  (refine (A2.out _).mono ?_; rintro e v1 ⟨rfl, hb1⟩; have hM1 := Lib.hid (mbox_after hb1 hx.out); obtain ⟨p1, q1, r1⟩ := hM1.out.1; have hO1 := Lib.hid (own_after hb1 hO.out); have hc1 := first_cell hO1.out HD0.out)
                  go_wp2_with fail
                  refine hK3.out _ _ ?_ (fun hHeld1 => ?_)
                  · (try dsimp only); go_keep
                  clear hK3 K3 hHeld0
                  try simp only [Act.put, List.setIfInBounds_toArray, List.set_cons_zero, List.set_cons_succ]
                  refine wpAnyH_take (i := 4) (oi := { dst := some 58, op := Go.Op.pick (Go.Operand.tmp 55) (Go.Operand.tmp 57) (Go.Operand.const (Go.Value.bool false)), type := 4, pos := "laws.go:231", after := #[{ on := 1, ground := Go.Ground.data }, { on := 3, ground := Go.Ground.data }], guard := none }) (v := ?_) rfl (by kernel_rfl) (by kernel_rfl) (by kernel_rfl) (fun _ _ _ h => h) (Or.inl ⟨by rfl, ?_⟩) (by assumption) ?_
                  rotate_left
                  · (intro w hSw; (try dsimp only at hSw); go_simp; try with_reducible rfl)
                  try simp only [Act.put, List.setIfInBounds_toArray, List.set_cons_zero, List.set_cons_succ]
                  refine wpAnyH_take (i := 5) (oi := { dst := some 59, op := Go.Op.move (Go.Operand.tmp 58), type := 4, pos := "laws.go:231", after := #[{ on := 4, ground := Go.Ground.data }, { on := 3, ground := Go.Ground.chain }], guard := none }) (v := ?_) rfl (by kernel_rfl) (by kernel_rfl) (by kernel_rfl) (fun _ _ _ h => h) (Or.inl ⟨by rfl, ?_⟩) (by assumption) ?_
                  rotate_left
                  · (intro w hSw; (try dsimp only at hSw); go_simp; try with_reducible rfl)
                  try simp only [Act.put, List.setIfInBounds_toArray, List.set_cons_zero, List.set_cons_succ]
                  refine wpAnyH_take (i := 6) (oi := { dst := some 60, op := Go.Op.move (Go.Operand.tmp 5), type := 3, pos := "laws.go:231", after := #[{ on := 5, ground := Go.Ground.guard }], guard := some (5, true) }) (v := ?_) rfl (by kernel_rfl) (by kernel_rfl) (by kernel_rfl) (fun _ _ _ h => h) (Or.inl ⟨by rfl, ?_⟩) (by assumption) ?_
                  rotate_left
                  · (intro w hSw; (try dsimp only at hSw); go_simp; try with_reducible rfl)
                  try simp only [Act.put, List.setIfInBounds_toArray, List.set_cons_zero, List.set_cons_succ]
                  refine wpAnyH_take (i := 7) (oi := { dst := some 61, op := Go.Op.binOp Go.BinOp.eql 3 (Go.Operand.tmp 60) (Go.Operand.const (Go.Value.int Go.IntKind.i64 0)) 3, type := 4, pos := "laws.go:231", after := #[{ on := 6, ground := Go.Ground.data }, { on := 5, ground := Go.Ground.guard }], guard := some (5, true) }) (v := ?_) rfl (by kernel_rfl) (by kernel_rfl) (by kernel_rfl) (fun _ _ _ h => h) (Or.inl ⟨by rfl, ?_⟩) (by assumption) ?_
                  rotate_left
                  · (intro w hSw; (try dsimp only at hSw); go_simp; try with_reducible rfl)
                  try simp only [Act.put, List.setIfInBounds_toArray, List.set_cons_zero, List.set_cons_succ]
                  refine wpAnyH_take (i := 8) (oi := { dst := some 62, op := Go.Op.move (Go.Operand.tmp 61), type := 4, pos := "laws.go:231", after := #[{ on := 7, ground := Go.Ground.data }, { on := 5, ground := Go.Ground.chain }, { on := 5, ground := Go.Ground.guard }], guard := some (5, true) }) (v := ?_) rfl (by kernel_rfl) (by kernel_rfl) (by kernel_rfl) (fun _ _ _ h => h) (Or.inl ⟨by rfl, ?_⟩) (by assumption) ?_
                  rotate_left
                  · (intro w hSw; (try dsimp only at hSw); go_simp; try with_reducible rfl)
                  try simp only [Act.put, List.setIfInBounds_toArray, List.set_cons_zero, List.set_cons_succ]
                  refine wpAnyH_take (i := 9) (oi := { dst := some 63, op := Go.Op.load 27 (Go.Operand.tmp 8), type := 27, pos := "laws.go:231", after := #[{ on := 8, ground := Go.Ground.guard }], guard := some (8, false) }) (v := ?_) rfl (by kernel_rfl) (by kernel_rfl) (by kernel_rfl) (fun _ _ _ h => h) (Or.inl ⟨by rfl, ?_⟩) (by assumption) ?_
                  rotate_left
                  · (intro w hSw; (try dsimp only at hSw); go_simp; try with_reducible rfl)
                  try simp only [Act.put, List.setIfInBounds_toArray, List.set_cons_zero, List.set_cons_succ]
                  refine wpAnyH_take (i := 10) (oi := { dst := some 64, op := Go.Op.move (Go.Operand.tmp 4), type := 34, pos := "laws.go:231", after := #[{ on := 8, ground := Go.Ground.guard }], guard := some (8, false) }) (v := ?_) rfl (by kernel_rfl) (by kernel_rfl) (by kernel_rfl) (fun _ _ _ h => h) (Or.inl ⟨by rfl, ?_⟩) (by assumption) ?_
                  rotate_left
                  · (intro w hSw; (try dsimp only at hSw); go_simp; try with_reducible rfl)
                  try simp only [Act.put, List.setIfInBounds_toArray, List.set_cons_zero, List.set_cons_succ]
                  refine wpAnyH_take (i := 11) (oi := { dst := some 65, op := Go.Op.indexAddr 34 (Go.Operand.tmp 64) (Go.Operand.const (Go.Value.int Go.IntKind.i64 0)), type := 0, pos := "laws.go:231", after := #[{ on := 10, ground := Go.Ground.data }, { on := 8, ground := Go.Ground.guard }], guard := some (8, false) }) (v := ?_) rfl (by kernel_rfl) (by kernel_rfl) (by kernel_rfl) (fun _ _ _ h => h) (Or.inl ⟨by rfl, ?_⟩) (by assumption) ?_
                  rotate_left
                  · (intro w hSw; (try dsimp only at hSw); go_simp; try with_reducible rfl)
                  try simp only [Act.put, List.setIfInBounds_toArray, List.set_cons_zero, List.set_cons_succ]
                  refine wpAnyH_take (i := 12) (oi := { dst := some 66, op := Go.Op.load 3 (Go.Operand.tmp 65), type := 3, pos := "laws.go:231", after := #[{ on := 11, ground := Go.Ground.data }, { on := 8, ground := Go.Ground.guard }], guard := some (8, false) }) (v := ?_) rfl (by kernel_rfl) (by kernel_rfl) (by kernel_rfl) (fun _ _ _ h => h) (Or.inl ⟨by rfl, ?_⟩) (by assumption) ?_
                  rotate_left
                  · (intro w hSw; (try dsimp only at hSw); go_simp; try with_reducible rfl)
                  try simp only [Act.put, List.setIfInBounds_toArray, List.set_cons_zero, List.set_cons_succ]
                  refine wpAnyH_ready (rs := [13]) (by kernel_rfl) (by simp) ?_
                  refine AllReadyH.cons (o := { dst := some 67, op := Go.Op.call { callee := Go.Callee.value (Go.Operand.func 21), args := #[Go.Operand.tmp 63, Go.Operand.tmp 66], argTypes := #[27, 3] }, type := 4, pos := "laws.go:231", after := #[{ on := 9, ground := Go.Ground.data }, { on := 12, ground := Go.Ground.data }, { on := 8, ground := Go.Ground.chain }, { on := 8, ground := Go.Ground.guard }], guard := some (8, false) }) rfl (fun K13 hK13 => ?_) AllReadyH.nil
                  go_simp
                  (refine (A3i.out _).mono ?_; rintro e v2 ⟨rfl, hb2⟩; have hM2 := Lib.hid (mbox_after hb2 hM1.out); obtain ⟨p2, q2, r2⟩ := hM2.out.1; have hO2 := Lib.hid (own_after hb2 hO1.out); have hc2 := first_cell hO2.out HD0.out)
                  go_wp2_with fail
                  refine hK13.out _ _ ?_ (fun hHeld2 => ?_)
                  · (try dsimp only); go_keep
                  clear hK13 K13 hHeld1
                  try simp only [Act.put, List.setIfInBounds_toArray, List.set_cons_zero, List.set_cons_succ]
                  refine wpAnyH_take (i := 14) (oi := { dst := some 68, op := Go.Op.pick (Go.Operand.tmp 62) (Go.Operand.const (Go.Value.bool true)) (Go.Operand.tmp 67), type := 4, pos := "laws.go:231", after := #[{ on := 8, ground := Go.Ground.data }, { on := 13, ground := Go.Ground.data }, { on := 5, ground := Go.Ground.guard }], guard := some (5, true) }) (v := ?_) rfl (by kernel_rfl) (by kernel_rfl) (by kernel_rfl) (fun _ _ _ h => h) (Or.inl ⟨by rfl, ?_⟩) (by assumption) ?_
                  rotate_left
                  · (intro w hSw; (try dsimp only at hSw); go_simp; try with_reducible rfl)
                  try simp only [Act.put, List.setIfInBounds_toArray, List.set_cons_zero, List.set_cons_succ]
                  refine wpAnyH_take (i := 15) (oi := { dst := some 69, op := Go.Op.pick (Go.Operand.tmp 59) (Go.Operand.tmp 68) (Go.Operand.const (Go.Value.bool false)), type := 4, pos := "laws.go:231", after := #[{ on := 5, ground := Go.Ground.data }, { on := 14, ground := Go.Ground.data }], guard := none }) (v := ?_) rfl (by kernel_rfl) (by kernel_rfl) (by kernel_rfl) (fun _ _ _ h => h) (Or.inl ⟨by rfl, ?_⟩) (by assumption) ?_
                  rotate_left
                  · (intro w hSw; (try dsimp only at hSw); go_simp; try with_reducible rfl)
                  try simp only [Act.put, List.setIfInBounds_toArray, List.set_cons_zero, List.set_cons_succ]
                  refine wpAnyH_take (i := 16) (oi := { dst := some 2, op := Go.Op.assign (Go.Operand.tmp 69), type := 4, pos := "laws.go:231", after := #[{ on := 15, ground := Go.Ground.data }, { on := 13, ground := Go.Ground.chain }, { on := 0, ground := Go.Ground.phase }, { on := 1, ground := Go.Ground.phase }, { on := 2, ground := Go.Ground.phase }, { on := 3, ground := Go.Ground.phase }, { on := 4, ground := Go.Ground.phase }, { on := 5, ground := Go.Ground.phase }, { on := 6, ground := Go.Ground.phase }, { on := 7, ground := Go.Ground.phase }, { on := 8, ground := Go.Ground.phase }, { on := 9, ground := Go.Ground.phase }, { on := 10, ground := Go.Ground.phase }, { on := 11, ground := Go.Ground.phase }, { on := 12, ground := Go.Ground.phase }, { on := 13, ground := Go.Ground.phase }, { on := 14, ground := Go.Ground.phase }, { on := 15, ground := Go.Ground.phase }], guard := none }) (v := ?_) rfl (by kernel_rfl) (by kernel_rfl) (by kernel_rfl) (fun _ _ _ h => h) (Or.inl ⟨by rfl, ?_⟩) (by assumption) ?_
                  rotate_left
                  · (intro w hSw; (try dsimp only at hSw); go_simp; try with_reducible rfl)
                  try simp only [Act.put, List.setIfInBounds_toArray, List.set_cons_zero, List.set_cons_succ]
                  refine wpAnyH_done (by kernel_rfl) ?_ _
                  go_wp2_with fail
                  go_ret
                  exact HK.out _ (below_call (below_call (below_dr hbl10.out) hb1) hb2)
end Go.Proofs.Ythgnhamokikhkaa.fnKruskals
