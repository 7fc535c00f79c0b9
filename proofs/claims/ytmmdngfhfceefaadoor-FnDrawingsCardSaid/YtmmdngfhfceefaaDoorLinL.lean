/- The law of drawings, over the contracts of the program's functions: a maze is read back from its lines and from its text. -/
import Derived.Test.YtmmdngfhfceefaaDoorLinP
import Derived.Test.YtmmdngfhfceefaaDoorLinR
import Derived.Test.YtmmdngfhfceefaaDoorListK
import Derived.Test.YtmmdngfhfceefaaDoorTxtP
import Derived.Test.YtmmdngfhfceefaaDoorDrwA
namespace Go.Proofs.YtmmdngfhfceefaaDoor.fnDrawings
open Go.ChangeShapes Go.WideShapes Go.ChangeAt Go.RowKit
open draw gridP gridC bitP mazeP mazeQ mazeC mazeM mazeE intsP intK bigK reachP reachM reachN reachD forest intA listK deadP linP splP listT linR txtP
set_option linter.unusedVariables false

/-- The law's answer. -/
def Yes (w : World) (e : Ending) (w' : World) : Prop := e = .returned (.bool true) ∧ Below w.heap.size w w'
theorem yes_mk {w w' : World} (h : Below w.heap.size w w') : Yes w (.returned (.bool true)) w' := ⟨rfl, h⟩

/-- 1 for true. -/
def biZ (b : Bool) : Int := if b = true then 1 else 0
theorem btoi_any (b : Bool) (w : World) : Calls Tryd.prog 12 #[.bool b] w fun e w' => e = .returned (.int .i64 (biZ b)) ∧ w = w' := by
  cases b <;>
  · go_enter Tryd.func12, Tryd.ntmps12
    go_wp2_with fail
    go_ret
    exact ⟨rfl, rfl⟩

theorem pc_far {o G : Nat} (ho : o < 2 ^ G) : ∀ d, pcN o (G + d) = pcN o G
  | 0 => rfl
  | d + 1 => by
    show pcN o (G + d) + bt o (G + d) = _
    rw [pc_far ho d, bt_lt ho (by omega), Nat.add_zero]
theorem cp_is {x y : Int} {o : Nat} (hk : OkZ x y) (ho : o < 2 ^ gN x y) : cpZ x y o = (pcN o (gN x y) : Int) := by
  unfold cpZ
  rw [if_pos (okm hk ho), Int.toNat_natCast]
  have hb := gps_bd hk.1 hk.2.1 hk.2.2.1 hk.2.2.2
  have hg : gN x y ≤ 24 := by unfold gN; omega
  have := pc_far ho (24 - gN x y)
  rw [show gN x y + (24 - gN x y) = 24 by omega] at this
  rw [this]
/-- A line of a drawing. -/
theorem line_at {x y z : Int} (hv : OkM x y z) {k : Nat} (hk : k < cW y) : (mlL x y z)[k]? = some (lnL x y z k) := by
  unfold mlL; rw [if_pos hv, List.getElem?_map, List.getElem?_range hk]; rfl
theorem byte_at (x y z : Int) (k i : Nat) (hi : i < cW x) (s : ByteArray) (hs : s = ⟨(lnL x y z k).toArray⟩) (h : i < s.size) : ((s[i].toNat : Int) == 32) = chB x y z k i := by
  subst hs
  have e : (⟨(lnL x y z k).toArray⟩ : ByteArray)[i] = chU (chB x y z k i) := by
    show (lnL x y z k).toArray[i]'h = _
    simp [lnL]
  rw [e]
  cases chB x y z k i <;> decide

theorem cnt_le (p : Nat → Bool) : ∀ n, cnt p n ≤ n
  | 0 => Nat.le_refl _
  | n + 1 => by
    have := cnt_le p n
    unfold cnt
    split <;> omega
theorem sm_le {f : Nat → Nat} {m : Nat} (h : ∀ k, f k ≤ m) : ∀ n, smN f n ≤ m * n
  | 0 => Nat.zero_le _
  | n + 1 => by
    have := sm_le h n
    have := h n
    unfold smN
    rw [Nat.mul_succ]; omega
theorem cnt_bi (p : Nat → Bool) (n : Nat) : (cnt p (n + 1) : Int) = (cnt p n : Int) + biZ (p n) := by
  rw [cnt]; unfold biZ
  split <;> simp
/-- While the law goes on: the maze, the two that were read, the lines. -/
def LW (w : World) (M F H B : Nat) (x y z : Int) (g cg N : Nat) (l : List (List UInt8)) (X : World) : Prop :=
  Below w.heap.size w X ∧ MBox M x y z X ∧ MBox F x y z X ∧ MBox H x y z X ∧ X.ownsRow B 9 1 (.slice (some ⟨g, 0, none⟩) N cg) N (scells l)
theorem LW.call {w X X' : World} {M F H B : Nat} {x y z : Int} {g cg N : Nat} {l : List (List UInt8)} (h : LW w M F H B x y z g cg N l X) (hb : Below X.heap.size X X') : LW w M F H B x y z g cg N l X' :=
  ⟨below_call h.1 hb, h.2.1.call hb, h.2.2.1.call hb, h.2.2.2.1.call hb, own_call h.2.2.2.2 hb⟩
theorem LW.dr {w X : World} {M F H B : Nat} {x y z : Int} {g cg N : Nat} {l : List (List UInt8)} (h : LW w M F H B x y z g cg N l X) : LW w M F H B x y z g cg N l X.drew := h.call ⟨rfl, rfl, rfl, Nat.le_refl _, fun _ _ => rfl⟩

set_option maxRecDepth 100000 in
set_option maxHeartbeats 4000000 in
theorem walk_at (A : Option Addr) (n c : Nat) (w : World) (hn : n ≤ maxLen) (hb : BytesIn w w.heap.size A n)
    (HMl : Hid (∀ x y z X, Calls Tryd.prog 8 #[.agg #[.int .i64 x, .int .i64 y, .int .i64 z]] X (Txs (mlL x y z) X)))
    (HRd : Hid (∀ A n c l X, l.length = n → n ≤ 1048576 → (∀ u ∈ l, u.length ≤ 1048576) → TxIn X X.heap.size A l → Calls Tryd.prog 9 #[.slice A n c] X (MzB (rmC l (rmX l)) (rmC l (rmY l)) (rmC l (rmO l)) (rmB l) X)))
    (HMt : Hid (∀ x y z X, Below w.heap.size w X → Calls Tryd.prog 11 #[.agg #[.int .i64 x, .int .i64 y, .int .i64 z]] X (Tx ⟨(mtL x y z).toArray⟩ X)))
    (HPm : Hid (∀ (s : ByteArray) X, s.size ≤ 1048576 → Below w.heap.size w X → Calls Tryd.prog 10 #[.string s] X (MzB (pmX s.data.toList) (pmY s.data.toList) (pmZ s.data.toList) (pmB s.data.toList) X)))
    (HCp : Hid (∀ x y z X, Calls Tryd.prog 14 #[.agg #[.int .i64 x, .int .i64 y, .int .i64 z]] X (Nm (cpZ x y z) X))) :
    Calls Tryd.prog 3 #[.slice A n c] w (Yes w) := by
  have HK := @Lib.hid _ (fun w' h => @yes_mk w w' h)
  have HR := Lib.hid (Below.refl w.heap.size w)
  have HD := Lib.hid (drawMaze_any A n c w hn hb)
  have HN := Lib.hid hn
  unfold maxLen at hn
  clear hb
  by_cases hbig : 1048576 < n
  · go_enter Tryd.func3, Tryd.ntmps3
    go_wp2_with fail
    refine (big_yes A n c w HN.out hbig).mono ?_
    rintro e w' ⟨rfl, rfl⟩
    go_wp2_with fail
    go_ret
    exact HK.out _ HR.out
  · go_enter Tryd.func3, Tryd.ntmps3
    go_wp2_with fail
    refine (big_no A n c w HN.out (by omega)).mono ?_
    rintro e w' ⟨rfl, rfl⟩
    go_wp2_with fail
    refine HD.out.mono ?_
    rintro e w1 ⟨x, y, z, hv, rfl, hb1⟩
    obtain ⟨hk, o, rfl, ho⟩ := okm_of hv
    obtain ⟨h1, h2, h3, h4⟩ := id hk
    have HC : Hid (∀ X, Calls Tryd.prog 13 #[.agg #[.int .i64 x, .int .i64 y]] X (Nm (x * y) X)) := fun X => gridS.countCells_yes x y X h1 h2 h3 h4
    have HC2 := Lib.hid (fun X => HCp.out x y o X)
    rw [cp_is hk ho] at HC2
    have hsp := sp_is hk ho
    obtain ⟨r1, r2, r3, r4⟩ := rm_read hv
    have hrc : ∀ v, rmC (mlL x y o) v = v := fun v => by unfold rmC; rw [if_pos r1]
    have hlen : ∀ u ∈ mlL x y (o : Int), u.length ≤ 1048576 := fun u hu => by
      unfold mlL at hu
      rw [if_pos hv] at hu
      obtain ⟨r, -, rfl⟩ := List.mem_map.1 hu
      have : (lnL x y o r).length = cW x := by simp [lnL]
      rw [this]; unfold cW; omega
    have hml := ml_len hv
    have A1 := Lib.hid (HMl.out x y o)
    have A2 := Lib.hid (fun A c X h => HRd.out A (mlL x y o).length c (mlL x y o) X rfl (by rw [hml]; unfold cW; omega) hlen h)
    rw [hrc, hrc, hrc, r1, r2, r3, r4] at A2
    have A3 := Lib.hid (HMt.out x y o)
    have A4 := Lib.hid (fun X h => HPm.out ⟨(mtL x y o).toArray⟩ X (by have := mt_len hv; show (mtL x y o).toArray.size ≤ 1048576; simp; omega) h)
    obtain ⟨p1, p2, p3, p4⟩ := pm_some (pm_yes hv)
    rw [show (⟨(mtL x y o).toArray⟩ : ByteArray).data.toList = mtL x y o by simp, p1, p2, p3, p4] at A4
    have HL := Lib.hid (fun k hk' => @line_at x y o hv k hk')
    have HBt := Lib.hid (fun k i hi s hs h => byte_at x y o k i hi s hs h)
    have hll : ∀ k, (lnL x y o k).length = cW x := fun k => by simp [lnL]
    have HLl := Lib.hid hll
    have hcx : cW x ≤ 9 := by unfold cW; omega
    have hcy : cW y ≤ 9 := by unfold cW; omega
    have hcY : (cW y : Int) = 2 * y + 1 := by unfold cW; omega
    have HSp : Hid ((smN (fun r => cnt (chB x y o r) (cW x)) (cW y) : Int) = x * y + pcN o (gN x y)) := Lib.hid hsp
    have hpc := pcN_le o (gN x y)
    have hbg := gps_bd h1 h2 h3 h4
    have hg24 : gN x y ≤ 24 := by unfold gN; omega
    have hxy := (mul_bd x y h1 h2 h3 h4).1
    have hz1 := hb1.size
    have hbl0 := @Lib.hid _ (fun T => (hb1.alloc hz1 (.cells #[.int .i64 x, .int .i64 y, .int .i64 o] T)))
    have hxm0 := @Lib.hid _ (fun T => mbox_new x y o w1 T)
    rw [hml] at A2
    have Hml := Lib.hid hml
    clear HMl HRd HMt HPm HCp HD HR hb1 hk ho hv hsp hrc hlen hml p1 p2 p3 p4 r1 r2 r3 r4 hll hbg h2 h4
    generalize mlL x y o = L at *
    generalize (⟨(mtL x y o).toArray⟩ : ByteArray) = t at *
    generalize pcN o (gN x y) = pc at *
    go_wp2_with fail
    refine (A1.out _).mono ?_
    rintro e w2 ⟨v4, rfl, ho, hb⟩
    have hbl2 := Lib.hid (below_call (hbl0.out _) hb)
    have hxm2 := Lib.hid ((hxm0.out _).call hb)
    rw [Hml.out] at ho
    obtain ⟨g, cg, rfl, hg, hgs⟩ := own_some ho (by omega)
    have ho2 := Lib.hid ho
    clear hb ho hg hgs hbl0 hxm0 A1
    go_wp2_with fail
    refine (A2.out _ _ _ (txs_own ho2.out).1).mono ?_
    rintro e w3 ⟨rfl, hb⟩
    have hbl3 := below_call hbl2.out hb
    have hxm3 := hxm2.out.call hb
    have ho3 := own_call ho2.out hb
    have hob := below_box w3 (.cells #[.int .i64 x, .int .i64 y, .int .i64 o] 27)
    have hbl4 := Lib.hid (below_call hbl3 hob)
    have hxm4 := Lib.hid (hxm3.call hob)
    have ho4 := Lib.hid (own_call ho3 hob)
    have hxf4 := Lib.hid (mbox_new x y o w3 27)
    obtain ⟨m0, m1, m2⟩ := hxm4.out.1
    clear hb hob hbl3 hxm3 ho3 hbl2 hxm2 ho2 A2
    go_wp2_with fail
    generalize w3.alloc (.cells #[.int .i64 x, .int .i64 y, .int .i64 o] 27) = w4 at *
    generalize w3.heap.size = F at *
    refine (A3.out _ hbl4.out).mono ?_
    rintro e w5 ⟨rfl, hb⟩
    have hbl5 := Lib.hid (below_call hbl4.out hb)
    have hxm5 := Lib.hid (hxm4.out.call hb)
    have hxf5 := Lib.hid (hxf4.out.call hb)
    have ho5 := Lib.hid (own_call ho4.out hb)
    clear hb hbl4 hxm4 hxf4 ho4 A3 m0 m1 m2
    go_wp2_with fail
    refine (A4.out _ hbl5.out).mono ?_
    rintro e w6 ⟨rfl, hb⟩
    have hbl6 := below_call hbl5.out hb
    have hxm6 := hxm5.out.call hb
    have hxf6 := hxf5.out.call hb
    have ho6 := own_call ho5.out hb
    have hob := below_box w6 (.cells #[.int .i64 x, .int .i64 y, .int .i64 o] 27)
    have hlw0 := @Lib.hid (∃ Bz, LW w w1.heap.size F w6.heap.size Bz x y o g cg (cW y) L (w6.alloc (.cells #[.int .i64 x, .int .i64 y, .int .i64 o] 27))) ⟨_, below_call hbl6 hob, hxm6.call hob, hxf6.call hob, mbox_new x y o w6 27, own_call ho6 hob⟩
    clear hb hob hbl6 hxm6 hxf6 ho6 hbl5 hxm5 hxf5 ho5 A4
    go_wp2_with fail
    generalize w6.alloc (.cells #[.int .i64 x, .int .i64 y, .int .i64 o] 27) = w7 at *
    obtain ⟨Bz, hlw⟩ := hlw0.out
    have hlw7 := Lib.hid hlw
    clear hlw hlw0
    generalize w6.heap.size = H at *
    generalize w1.heap.size = M at *
    have HF := Lib.hid (fun k => show smN (fun r => cnt (chB x y o r) (cW x)) (k + 1) = smN (fun r => cnt (chB x y o r) (cW x)) k + cnt (chB x y o k) (cW x) from rfl)
    have HFb := Lib.hid (fun k => sm_le (f := fun r => cnt (chB x y o r) (cW x)) (m := cW x) (fun r => cnt_le _ _) k)
    have HCb := Lib.hid (fun r i => cnt_le (chB x y o r) i)
    have HCi := Lib.hid (fun r i => cnt_bi (chB x y o r) i)
    have h90 : ((0 : Nat) : Int) = 0 := rfl
    generalize smN (fun r => cnt (chB x y o r) (cW x)) = S at *
    have hS0 : S 0 = 0 := by have := HFb.out 0; omega
    go_loopw [9, 10] (fun u9 u10 wr => ∃ k : Nat, k ≤ cW y ∧ u10 = .int .i64 k ∧ u9 = .int .i64 (S k) ∧ LW w M F H Bz x y o g cg (cW y) L wr) (fun _ u10 _ => cW y - (intOf u10).toNat)
    case atStart => exact ⟨0, Nat.zero_le _, rfl, by rw [hS0]; rfl, hlw7.out⟩
    case round =>
      clear hlw7
      obtain ⟨k, hk, rfl, rfl, hlw0⟩ := hrel
      have hlw := Lib.hid hlw0
      clear hlw0
      have hSk := HFb.out k
      have hSk2 : S k ≤ 81 := Nat.le_trans hSk (Nat.mul_le_mul hcx (show k ≤ 9 by omega))
      by_cases hkY : k < cW y
      · have hk0 : (0 : Int) ≤ (k : Int) := Int.natCast_nonneg _
        have hk1 : (k : Int) < (cW y : Int) := by omega
        have hk2 : decide ((k : Int) < 2 * y + 1) = true := decide_eq_true (by omega)
        go_wp2_with fail
        go_loopw [9, 11] (fun u9 u11 wq => ∃ i : Nat, i ≤ cW x ∧ u11 = .int .i64 i ∧ u9 = .int .i64 ((S k + cnt (chB x y o k) i : Nat) : Int) ∧ LW w M F H Bz x y o g cg (cW y) L wq) (fun _ u11 _ => cW x - (intOf u11).toNat)
        case atStart => exact ⟨0, Nat.zero_le _, rfl, rfl, hlw.out⟩
        case round =>
          clear hlw
          obtain ⟨i, hi, rfl, rfl, hlw0⟩ := hrel
          have hlw := Lib.hid hlw0
          clear hlw0
          have hci := HCb.out k i
          obtain ⟨s, hs⟩ : ∃ s : ByteArray, s = ⟨(lnL x y o k).toArray⟩ := ⟨_, rfl⟩
          have hsz : s.size = cW x := by rw [hs]; show (lnL x y o k).toArray.size = _; rw [List.size_toArray]; exact HLl.out k
          have hcell : wr.cell? ⟨g, k, none⟩ = some (.string s) := by
            rw [hlw.out.2.2.2.2.cellAt k (by omega), hs]
            simp [scells, HL.out k hkY]
          by_cases hiX : i < cW x
          · have hi0 : (0 : Int) ≤ (i : Int) := Int.natCast_nonneg _
            have hi1 : (i : Int) < (s.size : Int) := by omega
            have his : i < s.size := by omega
            have hbt := HBt.out k i hiX s hs his
            have hcn := HCi.out k i
            have Hs := Lib.hid hs
            clear hs
            generalize chB x y o k i = bb at *
            have HJ := Lib.hid (fun X => btoi_any bb X)
            have hbi : 0 ≤ biZ bb ∧ biZ bb ≤ 1 := by unfold biZ; split <;> omega
            have Hcn := Lib.hid hcn
            clear hcn
            generalize hcd : cnt (chB x y o k) i = d at *
            have q1 : IntKind.i64.wrap (((S k + d : Nat) : Int) + biZ bb) = ((S k + d : Nat) : Int) + biZ bb := IntWalk.i64_in _ (by omega)
            go_wp2_with fail
            refine (HJ.out _).mono ?_
            rintro e w' ⟨rfl, rfl⟩
            go_wp2_with fail
            go_roundw
            case rel => exact ⟨i + 1, by omega, by go_num, congrArg (Value.int .i64) (by have := Hcn.out; omega), hlw.out⟩
            case measure => simp [intOf]; omega
          · obtain rfl : i = cW x := by omega
            have hd2 : decide ((cW x : Int) < (s.size : Int)) = false := by rw [hsz]; simp
            have hFk := HF.out k
            clear hs
            go_wp2_with fail
            go_roundw
            case rel => exact ⟨k + 1, by omega, by go_num, congrArg (Value.int .i64) (by rw [hFk]), hlw.out⟩
            case measure => simp [intOf]; omega
      · obtain rfl : k = cW y := by omega
        have hSp := HSp.out
        have q1 : IntKind.i64.wrap (x * y + (pc : Int)) = x * y + (pc : Int) := IntWalk.i64_in _ (by omega)
        have q2 : IntKind.i64.wrap (2 * y) = 2 * y := IntWalk.i64_in _ (by omega)
        have q3 : IntKind.i64.wrap (2 * y + 1) = 2 * y + 1 := IntWalk.i64_in _ (by omega)
        rw [hSp]
        obtain ⟨m0, m1, m2⟩ := hlw.out.2.1.1
        obtain ⟨f0, f1, f2⟩ := hlw.out.2.2.1.1
        obtain ⟨p0, p1, p2⟩ := hlw.out.2.2.2.1.1
        clear HF HFb HCb HCi hS0 hSk hSk2 HSp hSp
        go_wp2_with fail
        try simp only [List.cons_append, List.nil_append, List.append_eq]
        refine wp_region_held_drew (S := (fun w' => w'.cell? ⟨M, 0, none⟩ = some (.int .i64 x) ∧ w'.cell? ⟨M, 1, none⟩ = some (.int .i64 y) ∧ w'.cell? ⟨M, 2, none⟩ = some (.int .i64 o) ∧ w'.cell? ⟨F, 0, none⟩ = some (.int .i64 x) ∧ w'.cell? ⟨F, 1, none⟩ = some (.int .i64 y) ∧ w'.cell? ⟨F, 2, none⟩ = some (.int .i64 o) ∧ w'.cell? ⟨H, 0, none⟩ = some (.int .i64 x) ∧ w'.cell? ⟨H, 1, none⟩ = some (.int .i64 y) ∧ w'.cell? ⟨H, 2, none⟩ = some (.int .i64 o))) (by kernel_rfl) ?_ (fun hHeld0 => ?_)
        · (try dsimp only); go_keep
        refine wpAnyH_take (i := 0) (oi := { dst := some 54, op := Go.Op.move (Go.Operand.tmp 6), type := 4, pos := "laws.go:289", after := #[], guard := none }) (v := ?_) rfl (by kernel_rfl) (by kernel_rfl) (by kernel_rfl) (fun _ _ _ h => h) (Or.inl ⟨by rfl, ?_⟩) (by assumption) ?_
        rotate_left
        · (intro w hSw; (try dsimp only at hSw); go_simp; try with_reducible rfl)
        try simp only [Act.put, List.setIfInBounds_toArray, List.set_cons_zero, List.set_cons_succ]
        refine wpAnyH_take (i := 1) (oi := { dst := some 55, op := Go.Op.move (Go.Operand.tmp 54), type := 4, pos := "laws.go:289", after := #[{ on := 0, ground := Go.Ground.data }], guard := none }) (v := ?_) rfl (by kernel_rfl) (by kernel_rfl) (by kernel_rfl) (fun _ _ _ h => h) (Or.inl ⟨by rfl, ?_⟩) (by assumption) ?_
        rotate_left
        · (intro w hSw; (try dsimp only at hSw); go_simp; try with_reducible rfl)
        try simp only [Act.put, List.setIfInBounds_toArray, List.set_cons_zero, List.set_cons_succ]
        refine wpAnyH_take (i := 2) (oi := { dst := some 56, op := Go.Op.move (Go.Operand.tmp 8), type := 4, pos := "laws.go:289", after := #[{ on := 1, ground := Go.Ground.guard }], guard := some (1, true) }) (v := ?_) rfl (by kernel_rfl) (by kernel_rfl) (by kernel_rfl) (fun _ _ _ h => h) (Or.inl ⟨by rfl, ?_⟩) (by assumption) ?_
        rotate_left
        · (intro w hSw; (try dsimp only at hSw); go_simp; try with_reducible rfl)
        try simp only [Act.put, List.setIfInBounds_toArray, List.set_cons_zero, List.set_cons_succ]
        refine wpAnyH_take (i := 3) (oi := { dst := some 57, op := Go.Op.pick (Go.Operand.tmp 55) (Go.Operand.tmp 56) (Go.Operand.const (Go.Value.bool false)), type := 4, pos := "laws.go:289", after := #[{ on := 1, ground := Go.Ground.data }, { on := 2, ground := Go.Ground.data }], guard := none }) (v := ?_) rfl (by kernel_rfl) (by kernel_rfl) (by kernel_rfl) (fun _ _ _ h => h) (Or.inl ⟨by rfl, ?_⟩) (by assumption) ?_
        rotate_left
        · (intro w hSw; (try dsimp only at hSw); go_simp; try with_reducible rfl)
        try simp only [Act.put, List.setIfInBounds_toArray, List.set_cons_zero, List.set_cons_succ]
        refine wpAnyH_take (i := 4) (oi := { dst := some 58, op := Go.Op.move (Go.Operand.tmp 57), type := 4, pos := "laws.go:289", after := #[{ on := 3, ground := Go.Ground.data }, { on := 1, ground := Go.Ground.chain }], guard := none }) (v := ?_) rfl (by kernel_rfl) (by kernel_rfl) (by kernel_rfl) (fun _ _ _ h => h) (Or.inl ⟨by rfl, ?_⟩) (by assumption) ?_
        rotate_left
        · (intro w hSw; (try dsimp only at hSw); go_simp; try with_reducible rfl)
        try simp only [Act.put, List.setIfInBounds_toArray, List.set_cons_zero, List.set_cons_succ]
        refine wpAnyH_take (i := 5) (oi := { dst := some 59, op := Go.Op.load 27 (Go.Operand.tmp 5), type := 27, pos := "laws.go:289", after := #[{ on := 4, ground := Go.Ground.guard }], guard := some (4, true) }) (v := ?_) rfl (by kernel_rfl) (by kernel_rfl) (by kernel_rfl) (fun _ _ _ h => h) (Or.inl ⟨by rfl, ?_⟩) (by assumption) ?_
        rotate_left
        · (intro w hSw; (try dsimp only at hSw); go_simp; try with_reducible rfl)
        try simp only [Act.put, List.setIfInBounds_toArray, List.set_cons_zero, List.set_cons_succ]
        refine wpAnyH_take (i := 6) (oi := { dst := some 60, op := Go.Op.load 27 (Go.Operand.tmp 3), type := 27, pos := "laws.go:289", after := #[{ on := 4, ground := Go.Ground.guard }], guard := some (4, true) }) (v := ?_) rfl (by kernel_rfl) (by kernel_rfl) (by kernel_rfl) (fun _ _ _ h => h) (Or.inl ⟨by rfl, ?_⟩) (by assumption) ?_
        rotate_left
        · (intro w hSw; (try dsimp only at hSw); go_simp; try with_reducible rfl)
        try simp only [Act.put, List.setIfInBounds_toArray, List.set_cons_zero, List.set_cons_succ]
        refine wpAnyH_take (i := 7) (oi := { dst := some 61, op := Go.Op.binOp Go.BinOp.eql 27 (Go.Operand.tmp 59) (Go.Operand.tmp 60) 27, type := 4, pos := "laws.go:289", after := #[{ on := 5, ground := Go.Ground.data }, { on := 6, ground := Go.Ground.data }, { on := 4, ground := Go.Ground.guard }], guard := some (4, true) }) (v := ?_) rfl (by kernel_rfl) (by kernel_rfl) (by kernel_rfl) (fun _ _ _ h => h) (Or.inl ⟨by rfl, ?_⟩) (by assumption) ?_
        rotate_left
        · (intro w hSw; (try dsimp only at hSw); go_simp; try with_reducible rfl)
        try simp only [Act.put, List.setIfInBounds_toArray, List.set_cons_zero, List.set_cons_succ]
        refine wpAnyH_take (i := 8) (oi := { dst := some 62, op := Go.Op.pick (Go.Operand.tmp 58) (Go.Operand.tmp 61) (Go.Operand.const (Go.Value.bool false)), type := 4, pos := "laws.go:289", after := #[{ on := 4, ground := Go.Ground.data }, { on := 7, ground := Go.Ground.data }], guard := none }) (v := ?_) rfl (by kernel_rfl) (by kernel_rfl) (by kernel_rfl) (fun _ _ _ h => h) (Or.inl ⟨by rfl, ?_⟩) (by assumption) ?_
        rotate_left
        · (intro w hSw; (try dsimp only at hSw); go_simp; try with_reducible rfl)
        try simp only [Act.put, List.setIfInBounds_toArray, List.set_cons_zero, List.set_cons_succ]
        refine wpAnyH_take (i := 9) (oi := { dst := some 63, op := Go.Op.move (Go.Operand.tmp 62), type := 4, pos := "laws.go:289", after := #[{ on := 8, ground := Go.Ground.data }, { on := 4, ground := Go.Ground.chain }], guard := none }) (v := ?_) rfl (by kernel_rfl) (by kernel_rfl) (by kernel_rfl) (fun _ _ _ h => h) (Or.inl ⟨by rfl, ?_⟩) (by assumption) ?_
        rotate_left
        · (intro w hSw; (try dsimp only at hSw); go_simp; try with_reducible rfl)
        try simp only [Act.put, List.setIfInBounds_toArray, List.set_cons_zero, List.set_cons_succ]
        refine wpAnyH_take (i := 10) (oi := { dst := some 64, op := Go.Op.load 27 (Go.Operand.tmp 7), type := 27, pos := "laws.go:289", after := #[{ on := 9, ground := Go.Ground.guard }], guard := some (9, true) }) (v := ?_) rfl (by kernel_rfl) (by kernel_rfl) (by kernel_rfl) (fun _ _ _ h => h) (Or.inl ⟨by rfl, ?_⟩) (by assumption) ?_
        rotate_left
        · (intro w hSw; (try dsimp only at hSw); go_simp; try with_reducible rfl)
        try simp only [Act.put, List.setIfInBounds_toArray, List.set_cons_zero, List.set_cons_succ]
        refine wpAnyH_take (i := 11) (oi := { dst := some 65, op := Go.Op.load 27 (Go.Operand.tmp 3), type := 27, pos := "laws.go:289", after := #[{ on := 9, ground := Go.Ground.guard }], guard := some (9, true) }) (v := ?_) rfl (by kernel_rfl) (by kernel_rfl) (by kernel_rfl) (fun _ _ _ h => h) (Or.inl ⟨by rfl, ?_⟩) (by assumption) ?_
        rotate_left
        · (intro w hSw; (try dsimp only at hSw); go_simp; try with_reducible rfl)
        try simp only [Act.put, List.setIfInBounds_toArray, List.set_cons_zero, List.set_cons_succ]
        refine wpAnyH_take (i := 12) (oi := { dst := some 66, op := Go.Op.binOp Go.BinOp.eql 27 (Go.Operand.tmp 64) (Go.Operand.tmp 65) 27, type := 4, pos := "laws.go:289", after := #[{ on := 10, ground := Go.Ground.data }, { on := 11, ground := Go.Ground.data }, { on := 9, ground := Go.Ground.guard }], guard := some (9, true) }) (v := ?_) rfl (by kernel_rfl) (by kernel_rfl) (by kernel_rfl) (fun _ _ _ h => h) (Or.inl ⟨by rfl, ?_⟩) (by assumption) ?_
        rotate_left
        · (intro w hSw; (try dsimp only at hSw); go_simp; try with_reducible rfl)
        try simp only [Act.put, List.setIfInBounds_toArray, List.set_cons_zero, List.set_cons_succ]
        refine wpAnyH_take (i := 13) (oi := { dst := some 67, op := Go.Op.pick (Go.Operand.tmp 63) (Go.Operand.tmp 66) (Go.Operand.const (Go.Value.bool false)), type := 4, pos := "laws.go:289", after := #[{ on := 9, ground := Go.Ground.data }, { on := 12, ground := Go.Ground.data }], guard := none }) (v := ?_) rfl (by kernel_rfl) (by kernel_rfl) (by kernel_rfl) (fun _ _ _ h => h) (Or.inl ⟨by rfl, ?_⟩) (by assumption) ?_
        rotate_left
        · (intro w hSw; (try dsimp only at hSw); go_simp; try with_reducible rfl)
        try simp only [Act.put, List.setIfInBounds_toArray, List.set_cons_zero, List.set_cons_succ]
        refine wpAnyH_take (i := 14) (oi := { dst := some 68, op := Go.Op.move (Go.Operand.tmp 67), type := 4, pos := "laws.go:289", after := #[{ on := 13, ground := Go.Ground.data }, { on := 9, ground := Go.Ground.chain }], guard := none }) (v := ?_) rfl (by kernel_rfl) (by kernel_rfl) (by kernel_rfl) (fun _ _ _ h => h) (Or.inl ⟨by rfl, ?_⟩) (by assumption) ?_
        rotate_left
        · (intro w hSw; (try dsimp only at hSw); go_simp; try with_reducible rfl)
        try simp only [Act.put, List.setIfInBounds_toArray, List.set_cons_zero, List.set_cons_succ]
        refine wpAnyH_take (i := 15) (oi := { dst := some 69, op := Go.Op.move (Go.Operand.tmp 9), type := 3, pos := "laws.go:289", after := #[{ on := 14, ground := Go.Ground.guard }], guard := some (14, true) }) (v := ?_) rfl (by kernel_rfl) (by kernel_rfl) (by kernel_rfl) (fun _ _ _ h => h) (Or.inl ⟨by rfl, ?_⟩) (by assumption) ?_
        rotate_left
        · (intro w hSw; (try dsimp only at hSw); go_simp; try with_reducible rfl)
        try simp only [Act.put, List.setIfInBounds_toArray, List.set_cons_zero, List.set_cons_succ]
        refine wpAnyH_take (i := 16) (oi := { dst := some 70, op := Go.Op.fieldAddr 27 (Go.Operand.tmp 3) 0, type := 0, pos := "laws.go:289", after := #[{ on := 14, ground := Go.Ground.guard }], guard := some (14, true) }) (v := ?_) rfl (by kernel_rfl) (by kernel_rfl) (by kernel_rfl) (fun _ _ _ h => h) (Or.inl ⟨by rfl, ?_⟩) (by assumption) ?_
        rotate_left
        · (intro w hSw; (try dsimp only at hSw); go_simp; try with_reducible rfl)
        try simp only [Act.put, List.setIfInBounds_toArray, List.set_cons_zero, List.set_cons_succ]
        refine wpAnyH_take (i := 17) (oi := { dst := some 71, op := Go.Op.load 25 (Go.Operand.tmp 70), type := 25, pos := "laws.go:289", after := #[{ on := 16, ground := Go.Ground.data }, { on := 14, ground := Go.Ground.guard }], guard := some (14, true) }) (v := ?_) rfl (by kernel_rfl) (by kernel_rfl) (by kernel_rfl) (fun _ _ _ h => h) (Or.inl ⟨by rfl, ?_⟩) (by assumption) ?_
        rotate_left
        · (intro w hSw; (try dsimp only at hSw); go_simp; try with_reducible rfl)
        try simp only [Act.put, List.setIfInBounds_toArray, List.set_cons_zero, List.set_cons_succ]
        refine wpAnyH_take (i := 19) (oi := { dst := some 73, op := Go.Op.load 27 (Go.Operand.tmp 3), type := 27, pos := "laws.go:289", after := #[{ on := 14, ground := Go.Ground.guard }], guard := some (14, true) }) (v := ?_) rfl (by kernel_rfl) (by kernel_rfl) (by kernel_rfl) (fun _ _ _ h => h) (Or.inl ⟨by rfl, ?_⟩) (by assumption) ?_
        rotate_left
        · (intro w hSw; (try dsimp only at hSw); go_simp; try with_reducible rfl)
        try simp only [Act.put, List.setIfInBounds_toArray, List.set_cons_zero, List.set_cons_succ]
        refine wpAnyH_ready (rs := [18]) (by kernel_rfl) (by simp) ?_
        refine AllReadyH.cons (o := { dst := some 72, op := Go.Op.call { callee := Go.Callee.value (Go.Operand.func 13), args := #[Go.Operand.tmp 71], argTypes := #[25] }, type := 3, pos := "laws.go:289", after := #[{ on := 17, ground := Go.Ground.data }, { on := 14, ground := Go.Ground.chain }, { on := 14, ground := Go.Ground.guard }], guard := some (14, true) }) rfl (fun K18 hK18 => ?_) AllReadyH.nil
        go_simp
        (refine (HC _).mono ?_; rintro e v1 ⟨rfl, hb1⟩; have hl1 := Lib.hid (hlw.out.dr.call hb1); obtain ⟨a0, a1, a2⟩ := hl1.out.2.1.1; obtain ⟨b0, b1, b2⟩ := hl1.out.2.2.1.1; obtain ⟨c0, c1, c2⟩ := hl1.out.2.2.2.1.1)
        go_wp2_with fail
        refine hK18.out _ _ ?_ (fun hHeld1 => ?_)
        · (try dsimp only); go_keep
        clear hK18 K18 hHeld0
        try simp only [Act.put, List.setIfInBounds_toArray, List.set_cons_zero, List.set_cons_succ]
        refine wpAnyH_ready (rs := [20]) (by kernel_rfl) (by simp) ?_
        refine AllReadyH.cons (o := { dst := some 74, op := Go.Op.call { callee := Go.Callee.value (Go.Operand.func 14), args := #[Go.Operand.tmp 73], argTypes := #[27] }, type := 3, pos := "laws.go:289", after := #[{ on := 19, ground := Go.Ground.data }, { on := 18, ground := Go.Ground.chain }, { on := 14, ground := Go.Ground.guard }], guard := some (14, true) }) rfl (fun K20 hK20 => ?_) AllReadyH.nil
        go_simp
        (refine (HC2.out _).mono ?_; rintro e v2 ⟨rfl, hb2⟩; have hl2 := Lib.hid (hl1.out.call hb2); obtain ⟨d0, d1, d2⟩ := hl2.out.2.1.1; obtain ⟨e0, e1, e2⟩ := hl2.out.2.2.1.1; obtain ⟨g0, g1, g2⟩ := hl2.out.2.2.2.1.1)
        go_wp2_with fail
        refine hK20.out _ _ ?_ (fun hHeld2 => ?_)
        · (try dsimp only); go_keep
        clear hK20 K20 hHeld1
        try simp only [Act.put, List.setIfInBounds_toArray, List.set_cons_zero, List.set_cons_succ]
        refine wpAnyH_take (i := 21) (oi := { dst := some 75, op := Go.Op.binOp Go.BinOp.add 3 (Go.Operand.tmp 72) (Go.Operand.tmp 74) 3, type := 3, pos := "laws.go:289", after := #[{ on := 18, ground := Go.Ground.data }, { on := 20, ground := Go.Ground.data }, { on := 14, ground := Go.Ground.guard }], guard := some (14, true) }) (v := ?_) rfl (by kernel_rfl) (by kernel_rfl) (by kernel_rfl) (fun _ _ _ h => h) (Or.inl ⟨by rfl, ?_⟩) (by assumption) ?_
        rotate_left
        · (intro w hSw; (try dsimp only at hSw); go_simp; try with_reducible rfl)
        try simp only [Act.put, List.setIfInBounds_toArray, List.set_cons_zero, List.set_cons_succ]
        refine wpAnyH_take (i := 22) (oi := { dst := some 76, op := Go.Op.binOp Go.BinOp.eql 3 (Go.Operand.tmp 69) (Go.Operand.tmp 75) 3, type := 4, pos := "laws.go:289", after := #[{ on := 15, ground := Go.Ground.data }, { on := 21, ground := Go.Ground.data }, { on := 14, ground := Go.Ground.guard }], guard := some (14, true) }) (v := ?_) rfl (by kernel_rfl) (by kernel_rfl) (by kernel_rfl) (fun _ _ _ h => h) (Or.inl ⟨by rfl, ?_⟩) (by assumption) ?_
        rotate_left
        · (intro w hSw; (try dsimp only at hSw); go_simp; try with_reducible rfl)
        try simp only [Act.put, List.setIfInBounds_toArray, List.set_cons_zero, List.set_cons_succ]
        refine wpAnyH_take (i := 23) (oi := { dst := some 77, op := Go.Op.pick (Go.Operand.tmp 68) (Go.Operand.tmp 76) (Go.Operand.const (Go.Value.bool false)), type := 4, pos := "laws.go:289", after := #[{ on := 14, ground := Go.Ground.data }, { on := 22, ground := Go.Ground.data }], guard := none }) (v := ?_) rfl (by kernel_rfl) (by kernel_rfl) (by kernel_rfl) (fun _ _ _ h => h) (Or.inl ⟨by rfl, ?_⟩) (by assumption) ?_
        rotate_left
        · (intro w hSw; (try dsimp only at hSw); go_simp; try with_reducible rfl)
        try simp only [Act.put, List.setIfInBounds_toArray, List.set_cons_zero, List.set_cons_succ]
        refine wpAnyH_take (i := 24) (oi := { dst := some 78, op := Go.Op.move (Go.Operand.tmp 77), type := 4, pos := "laws.go:289", after := #[{ on := 23, ground := Go.Ground.data }, { on := 20, ground := Go.Ground.chain }], guard := none }) (v := ?_) rfl (by kernel_rfl) (by kernel_rfl) (by kernel_rfl) (fun _ _ _ h => h) (Or.inl ⟨by rfl, ?_⟩) (by assumption) ?_
        rotate_left
        · (intro w hSw; (try dsimp only at hSw); go_simp; try with_reducible rfl)
        try simp only [Act.put, List.setIfInBounds_toArray, List.set_cons_zero, List.set_cons_succ]
        refine wpAnyH_take (i := 25) (oi := { dst := some 79, op := Go.Op.move (Go.Operand.tmp 4), type := 29, pos := "laws.go:289", after := #[{ on := 24, ground := Go.Ground.guard }], guard := some (24, true) }) (v := ?_) rfl (by kernel_rfl) (by kernel_rfl) (by kernel_rfl) (fun _ _ _ h => h) (Or.inl ⟨by rfl, ?_⟩) (by assumption) ?_
        rotate_left
        · (intro w hSw; (try dsimp only at hSw); go_simp; try with_reducible rfl)
        try simp only [Act.put, List.setIfInBounds_toArray, List.set_cons_zero, List.set_cons_succ]
        refine wpAnyH_take (i := 26) (oi := { dst := some 80, op := Go.Op.call { callee := Go.Callee.builtin Go.Builtin.len, args := #[Go.Operand.tmp 79], argTypes := #[29] }, type := 3, pos := "laws.go:289", after := #[{ on := 25, ground := Go.Ground.data }, { on := 24, ground := Go.Ground.guard }], guard := some (24, true) }) (v := ?_) rfl (by kernel_rfl) (by kernel_rfl) (by kernel_rfl) (fun _ _ _ h => h) (Or.inl ⟨by rfl, ?_⟩) (by assumption) ?_
        rotate_left
        · (intro w hSw; (try dsimp only at hSw); go_simp; try with_reducible rfl)
        try simp only [Act.put, List.setIfInBounds_toArray, List.set_cons_zero, List.set_cons_succ]
        refine wpAnyH_take (i := 27) (oi := { dst := some 81, op := Go.Op.fieldAddr 27 (Go.Operand.tmp 3) 0, type := 0, pos := "laws.go:289", after := #[{ on := 24, ground := Go.Ground.guard }], guard := some (24, true) }) (v := ?_) rfl (by kernel_rfl) (by kernel_rfl) (by kernel_rfl) (fun _ _ _ h => h) (Or.inl ⟨by rfl, ?_⟩) (by assumption) ?_
        rotate_left
        · (intro w hSw; (try dsimp only at hSw); go_simp; try with_reducible rfl)
        try simp only [Act.put, List.setIfInBounds_toArray, List.set_cons_zero, List.set_cons_succ]
        refine wpAnyH_take (i := 28) (oi := { dst := some 82, op := Go.Op.fieldAddr 25 (Go.Operand.tmp 81) 1, type := 0, pos := "laws.go:289", after := #[{ on := 27, ground := Go.Ground.data }, { on := 24, ground := Go.Ground.guard }], guard := some (24, true) }) (v := ?_) rfl (by kernel_rfl) (by kernel_rfl) (by kernel_rfl) (fun _ _ _ h => h) (Or.inl ⟨by rfl, ?_⟩) (by assumption) ?_
        rotate_left
        · (intro w hSw; (try dsimp only at hSw); go_simp; try with_reducible rfl)
        try simp only [Act.put, List.setIfInBounds_toArray, List.set_cons_zero, List.set_cons_succ]
        refine wpAnyH_take (i := 29) (oi := { dst := some 83, op := Go.Op.load 3 (Go.Operand.tmp 82), type := 3, pos := "laws.go:289", after := #[{ on := 28, ground := Go.Ground.data }, { on := 24, ground := Go.Ground.guard }], guard := some (24, true) }) (v := ?_) rfl (by kernel_rfl) (by kernel_rfl) (by kernel_rfl) (fun _ _ _ h => h) (Or.inl ⟨by rfl, ?_⟩) (by assumption) ?_
        rotate_left
        · (intro w hSw; (try dsimp only at hSw); go_simp; try with_reducible rfl)
        try simp only [Act.put, List.setIfInBounds_toArray, List.set_cons_zero, List.set_cons_succ]
        refine wpAnyH_take (i := 30) (oi := { dst := some 84, op := Go.Op.binOp Go.BinOp.mul 3 (Go.Operand.const (Go.Value.int Go.IntKind.i64 2)) (Go.Operand.tmp 83) 3, type := 3, pos := "laws.go:289", after := #[{ on := 29, ground := Go.Ground.data }, { on := 24, ground := Go.Ground.guard }], guard := some (24, true) }) (v := ?_) rfl (by kernel_rfl) (by kernel_rfl) (by kernel_rfl) (fun _ _ _ h => h) (Or.inl ⟨by rfl, ?_⟩) (by assumption) ?_
        rotate_left
        · (intro w hSw; (try dsimp only at hSw); go_simp; try with_reducible rfl)
        try simp only [Act.put, List.setIfInBounds_toArray, List.set_cons_zero, List.set_cons_succ]
        refine wpAnyH_take (i := 31) (oi := { dst := some 85, op := Go.Op.binOp Go.BinOp.add 3 (Go.Operand.tmp 84) (Go.Operand.const (Go.Value.int Go.IntKind.i64 1)) 3, type := 3, pos := "laws.go:289", after := #[{ on := 30, ground := Go.Ground.data }, { on := 24, ground := Go.Ground.guard }], guard := some (24, true) }) (v := ?_) rfl (by kernel_rfl) (by kernel_rfl) (by kernel_rfl) (fun _ _ _ h => h) (Or.inl ⟨by rfl, ?_⟩) (by assumption) ?_
        rotate_left
        · (intro w hSw; (try dsimp only at hSw); go_simp; try with_reducible rfl)
        try simp only [Act.put, List.setIfInBounds_toArray, List.set_cons_zero, List.set_cons_succ]
        refine wpAnyH_take (i := 32) (oi := { dst := some 86, op := Go.Op.binOp Go.BinOp.eql 3 (Go.Operand.tmp 80) (Go.Operand.tmp 85) 3, type := 4, pos := "laws.go:289", after := #[{ on := 26, ground := Go.Ground.data }, { on := 31, ground := Go.Ground.data }, { on := 24, ground := Go.Ground.guard }], guard := some (24, true) }) (v := ?_) rfl (by kernel_rfl) (by kernel_rfl) (by kernel_rfl) (fun _ _ _ h => h) (Or.inl ⟨by rfl, ?_⟩) (by assumption) ?_
        rotate_left
        · (intro w hSw; (try dsimp only at hSw); go_simp; try with_reducible rfl)
        try simp only [Act.put, List.setIfInBounds_toArray, List.set_cons_zero, List.set_cons_succ]
        refine wpAnyH_take (i := 33) (oi := { dst := some 87, op := Go.Op.pick (Go.Operand.tmp 78) (Go.Operand.tmp 86) (Go.Operand.const (Go.Value.bool false)), type := 4, pos := "laws.go:289", after := #[{ on := 24, ground := Go.Ground.data }, { on := 32, ground := Go.Ground.data }], guard := none }) (v := ?_) rfl (by kernel_rfl) (by kernel_rfl) (by kernel_rfl) (fun _ _ _ h => h) (Or.inl ⟨by rfl, ?_⟩) (by assumption) ?_
        rotate_left
        · (intro w hSw; (try dsimp only at hSw); go_simp; try with_reducible rfl)
        try simp only [Act.put, List.setIfInBounds_toArray, List.set_cons_zero, List.set_cons_succ]
        refine wpAnyH_take (i := 34) (oi := { dst := some 2, op := Go.Op.assign (Go.Operand.tmp 87), type := 4, pos := "laws.go:289", after := #[{ on := 33, ground := Go.Ground.data }, { on := 24, ground := Go.Ground.chain }, { on := 0, ground := Go.Ground.phase }, { on := 1, ground := Go.Ground.phase }, { on := 2, ground := Go.Ground.phase }, { on := 3, ground := Go.Ground.phase }, { on := 4, ground := Go.Ground.phase }, { on := 5, ground := Go.Ground.phase }, { on := 6, ground := Go.Ground.phase }, { on := 7, ground := Go.Ground.phase }, { on := 8, ground := Go.Ground.phase }, { on := 9, ground := Go.Ground.phase }, { on := 10, ground := Go.Ground.phase }, { on := 11, ground := Go.Ground.phase }, { on := 12, ground := Go.Ground.phase }, { on := 13, ground := Go.Ground.phase }, { on := 14, ground := Go.Ground.phase }, { on := 15, ground := Go.Ground.phase }, { on := 16, ground := Go.Ground.phase }, { on := 17, ground := Go.Ground.phase }, { on := 18, ground := Go.Ground.phase }, { on := 19, ground := Go.Ground.phase }, { on := 20, ground := Go.Ground.phase }, { on := 21, ground := Go.Ground.phase }, { on := 22, ground := Go.Ground.phase }, { on := 23, ground := Go.Ground.phase }, { on := 24, ground := Go.Ground.phase }, { on := 25, ground := Go.Ground.phase }, { on := 26, ground := Go.Ground.phase }, { on := 27, ground := Go.Ground.phase }, { on := 28, ground := Go.Ground.phase }, { on := 29, ground := Go.Ground.phase }, { on := 30, ground := Go.Ground.phase }, { on := 31, ground := Go.Ground.phase }, { on := 32, ground := Go.Ground.phase }, { on := 33, ground := Go.Ground.phase }], guard := none }) (v := ?_) rfl (by kernel_rfl) (by kernel_rfl) (by kernel_rfl) (fun _ _ _ h => h) (Or.inl ⟨by rfl, ?_⟩) (by assumption) ?_
        rotate_left
        · (intro w hSw; (try dsimp only at hSw); go_simp; try with_reducible rfl)
        try simp only [Act.put, List.setIfInBounds_toArray, List.set_cons_zero, List.set_cons_succ]
        refine wpAnyH_done (by kernel_rfl) ?_ _
        go_wp2_with fail
        go_ret
        exact HK.out _ hl2.out.1
end Go.Proofs.YtmmdngfhfceefaaDoor.fnDrawings
