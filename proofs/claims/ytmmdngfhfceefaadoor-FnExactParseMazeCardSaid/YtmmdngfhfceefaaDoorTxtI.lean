/- The contracts of the program's text of a maze and of the maze of a text, where the library's variables hold what they are laid with. -/
import Derived.Test.YtmmdngfhfceefaaDoorTxtP
import Derived.Test.YtmmdngfhfceefaaDoorFmtI
import Derived.Test.YtmmdngfhfceefaaDoorPuI
import Derived.Test.YtmmdngfhfceefaaDoorSplI
import Derived.Test.YtmmdngfhfceefaaDoorPrgM
import Derived.Test.YtmmdngfhfceefaaDoorListT
import Derived.Test.YtmmdngfhfceefaaDoorLinR
namespace Go.Proofs.YtmmdngfhfceefaaDoor.txtI
open Go.ChangeShapes Go.WideShapes Go.ChangeAt Go.RowKit
open draw gridP gridC gridE bitP mazeP mazeC mazeM mazeI intsP intA listK splP puP fmtI puI listT linR txtP
set_option linter.unusedVariables false

theorem add_three (a b c : List UInt8) : (((⟨a.toArray⟩ : ByteArray) ++ ⟨#[32]⟩ ++ ⟨b.toArray⟩ ++ ⟨#[32]⟩) ++ ⟨c.toArray⟩) = ⟨(a ++ 32 :: (b ++ 32 :: c)).toArray⟩ := by
  have e : (⟨#[32]⟩ : ByteArray) = ⟨([32] : List UInt8).toArray⟩ := rfl
  rw [e, ByteArray.mk_append_mk, ByteArray.mk_append_mk, ByteArray.mk_append_mk, ByteArray.mk_append_mk]
  simp

set_option maxRecDepth 100000 in
theorem mazeText_any (x y z : Int) (W : World) (ht : Tab W) :
    Calls Tryd.prog 11 #[.agg #[.int .i64 x, .int .i64 y, .int .i64 z]] W (Tx ⟨(mtL x y z).toArray⟩ W) := by
  have HK := @Lib.hid _ (fun s w' h => @tx_mk ⟨(mtL x y z).toArray⟩ s W w' h)
  have HO := Lib.hid (fun X => ok_any x y z X)
  have HB := Lib.hid (fun T => mbox_new x y z W T)
  have HBl := Lib.hid (fun o => below_box W o)
  by_cases hv : OkM x y z
  · rw [show okB x y z = true from decide_eq_true hv] at HO
    obtain ⟨h1, h2, h3⟩ := ok_num hv
    have l1 := h1.len; have l2 := h2.len; have l3 := h3.len
    have F1 := Lib.hid (fun X (h : Below W.heap.size W X) => fmtI.format_any x X (by have := h1.1; omega) (by have := h1.2.1; omega) (ht.below h))
    have F2 := Lib.hid (fun X (h : Below W.heap.size W X) => fmtI.format_any y X (by have := h2.1; omega) (by have := h2.2.1; omega) (ht.below h))
    have F3 := Lib.hid (fun X (h : Below W.heap.size W X) => fmtI.format_any z X (by have := h3.1; omega) (by have := h3.2.1; omega) (ht.below h))
    have HE : Hid (((⟨(Lib.itoa x).toArray⟩ : ByteArray) ++ ⟨#[32]⟩ ++ ⟨(Lib.itoa y).toArray⟩ ++ ⟨#[32]⟩ ++ ⟨(Lib.itoa z).toArray⟩) = ⟨(mtL x y z).toArray⟩) := Lib.hid (by rw [mt_is hv]; exact add_three _ _ _)
    obtain ⟨s1, e1⟩ : ∃ s : ByteArray, s = ⟨(Lib.itoa x).toArray⟩ := ⟨_, rfl⟩
    obtain ⟨s2, e2⟩ : ∃ s : ByteArray, s = ⟨(Lib.itoa y).toArray⟩ := ⟨_, rfl⟩
    obtain ⟨s3, e3⟩ : ∃ s : ByteArray, s = ⟨(Lib.itoa z).toArray⟩ := ⟨_, rfl⟩
    have z1 : s1.size ≤ 10 := by rw [e1]; simpa [ByteArray.size] using l1
    have z2 : s2.size ≤ 10 := by rw [e2]; simpa [ByteArray.size] using l2
    have z3 : s3.size ≤ 10 := by rw [e3]; simpa [ByteArray.size] using l3
    rw [← e1] at F1 HE; rw [← e2] at F2 HE; rw [← e3] at F3 HE
    have hsp : (⟨#[32]⟩ : ByteArray).size = 1 := rfl
    obtain ⟨t1, d1⟩ : ∃ t, t = s1 ++ ⟨#[32]⟩ := ⟨_, rfl⟩
    obtain ⟨t2, d2⟩ : ∃ t, t = t1 ++ s2 := ⟨_, rfl⟩
    obtain ⟨t3, d3⟩ : ∃ t, t = t2 ++ ⟨#[32]⟩ := ⟨_, rfl⟩
    obtain ⟨t4, d4⟩ : ∃ t, t = t3 ++ s3 := ⟨_, rfl⟩
    have y1 : t1.size ≤ 11 := by rw [d1, ByteArray.size_append, hsp]; omega
    have y2 : t2.size ≤ 21 := by rw [d2, ByteArray.size_append]; omega
    have y3 : t3.size ≤ 22 := by rw [d3, ByteArray.size_append, hsp]; omega
    rw [← d1, ← d2, ← d3, ← d4] at HE
    have a1 : ∀ w', (Op.stringOp .add s1 ⟨#[32]⟩).run Tryd.prog w' = .ok (.string t1) w' := fun w' => by rw [run_string_add_sum (w := w') s1 _ (by omega), d1]
    have a2 : ∀ w', (Op.stringOp .add t1 s2).run Tryd.prog w' = .ok (.string t2) w' := fun w' => by rw [run_string_add_sum (w := w') t1 _ (by omega), d2]
    have a3 : ∀ w', (Op.stringOp .add t2 ⟨#[32]⟩).run Tryd.prog w' = .ok (.string t3) w' := fun w' => by rw [run_string_add_sum (w := w') t2 _ (by omega), d3]
    have a4 : ∀ w', (Op.stringOp .add t3 s3).run Tryd.prog w' = .ok (.string t4) w' := fun w' => by rw [run_string_add_sum (w := w') t3 _ (by omega), d4]
    clear ht hv h1 h2 h3 l1 l2 l3 z1 z2 z3 y1 y2 y3 d1 d2 d3 d4 e1 e2 e3 hsp
    go_enter Tryd.func11, Tryd.ntmps11
    go_wp2_with fail
    refine (HO.out _).mono ?_
    rintro e w1 ⟨rfl, hb⟩
    have hbl1 := Lib.hid (below_call (HBl.out (.cells #[.int .i64 x, .int .i64 y, .int .i64 z] 27)) hb)
    have hx1 := Lib.hid ((HB.out 27).call hb)
    obtain ⟨c0, c1, c2⟩ := hx1.out.1
    clear hb HB HBl HO
    go_wp2_with fail
    try simp only [List.cons_append, List.nil_append, List.append_eq]
    refine wp_region_held_drew (S := (fun w' => w'.cell? ⟨W.heap.size, 0, none⟩ = some (.int .i64 x) ∧ w'.cell? ⟨W.heap.size, 1, none⟩ = some (.int .i64 y) ∧ w'.cell? ⟨W.heap.size, 2, none⟩ = some (.int .i64 z))) (by kernel_rfl) ?_ (fun hHeld0 => ?_)
    · (try dsimp only); go_keep
    refine wpAnyH_take (i := 0) (oi := { dst := some 6, op := Go.Op.fieldAddr 27 (Go.Operand.tmp 1) 0, type := 0, pos := "l08_draw.go:78", after := #[], guard := none }) (v := ?_) rfl (by kernel_rfl) (by kernel_rfl) (by kernel_rfl) (fun _ _ _ h => h) (Or.inl ⟨by rfl, ?_⟩) (by assumption) ?_
    rotate_left
    · (intro w hSw; (try dsimp only at hSw); go_simp; try with_reducible rfl)
    try simp only [Act.put, List.setIfInBounds_toArray, List.set_cons_zero, List.set_cons_succ]
    refine wpAnyH_take (i := 1) (oi := { dst := some 7, op := Go.Op.fieldAddr 25 (Go.Operand.tmp 6) 0, type := 0, pos := "l08_draw.go:78", after := #[{ on := 0, ground := Go.Ground.data }], guard := none }) (v := ?_) rfl (by kernel_rfl) (by kernel_rfl) (by kernel_rfl) (fun _ _ _ h => h) (Or.inl ⟨by rfl, ?_⟩) (by assumption) ?_
    rotate_left
    · (intro w hSw; (try dsimp only at hSw); go_simp; try with_reducible rfl)
    try simp only [Act.put, List.setIfInBounds_toArray, List.set_cons_zero, List.set_cons_succ]
    refine wpAnyH_take (i := 2) (oi := { dst := some 8, op := Go.Op.load 3 (Go.Operand.tmp 7), type := 3, pos := "l08_draw.go:78", after := #[{ on := 1, ground := Go.Ground.data }], guard := none }) (v := ?_) rfl (by kernel_rfl) (by kernel_rfl) (by kernel_rfl) (fun _ _ _ h => h) (Or.inl ⟨by rfl, ?_⟩) (by assumption) ?_
    rotate_left
    · (intro w hSw; (try dsimp only at hSw); go_simp; try with_reducible rfl)
    try simp only [Act.put, List.setIfInBounds_toArray, List.set_cons_zero, List.set_cons_succ]
    refine wpAnyH_take (i := 5) (oi := { dst := some 11, op := Go.Op.fieldAddr 27 (Go.Operand.tmp 1) 0, type := 0, pos := "l08_draw.go:78", after := #[], guard := none }) (v := ?_) rfl (by kernel_rfl) (by kernel_rfl) (by kernel_rfl) (fun _ _ _ h => h) (Or.inl ⟨by rfl, ?_⟩) (by assumption) ?_
    rotate_left
    · (intro w hSw; (try dsimp only at hSw); go_simp; try with_reducible rfl)
    try simp only [Act.put, List.setIfInBounds_toArray, List.set_cons_zero, List.set_cons_succ]
    refine wpAnyH_take (i := 6) (oi := { dst := some 12, op := Go.Op.fieldAddr 25 (Go.Operand.tmp 11) 1, type := 0, pos := "l08_draw.go:78", after := #[{ on := 5, ground := Go.Ground.data }], guard := none }) (v := ?_) rfl (by kernel_rfl) (by kernel_rfl) (by kernel_rfl) (fun _ _ _ h => h) (Or.inl ⟨by rfl, ?_⟩) (by assumption) ?_
    rotate_left
    · (intro w hSw; (try dsimp only at hSw); go_simp; try with_reducible rfl)
    try simp only [Act.put, List.setIfInBounds_toArray, List.set_cons_zero, List.set_cons_succ]
    refine wpAnyH_take (i := 7) (oi := { dst := some 13, op := Go.Op.load 3 (Go.Operand.tmp 12), type := 3, pos := "l08_draw.go:78", after := #[{ on := 6, ground := Go.Ground.data }], guard := none }) (v := ?_) rfl (by kernel_rfl) (by kernel_rfl) (by kernel_rfl) (fun _ _ _ h => h) (Or.inl ⟨by rfl, ?_⟩) (by assumption) ?_
    rotate_left
    · (intro w hSw; (try dsimp only at hSw); go_simp; try with_reducible rfl)
    try simp only [Act.put, List.setIfInBounds_toArray, List.set_cons_zero, List.set_cons_succ]
    refine wpAnyH_take (i := 11) (oi := { dst := some 17, op := Go.Op.fieldAddr 27 (Go.Operand.tmp 1) 1, type := 0, pos := "l08_draw.go:78", after := #[], guard := none }) (v := ?_) rfl (by kernel_rfl) (by kernel_rfl) (by kernel_rfl) (fun _ _ _ h => h) (Or.inl ⟨by rfl, ?_⟩) (by assumption) ?_
    rotate_left
    · (intro w hSw; (try dsimp only at hSw); go_simp; try with_reducible rfl)
    try simp only [Act.put, List.setIfInBounds_toArray, List.set_cons_zero, List.set_cons_succ]
    refine wpAnyH_take (i := 12) (oi := { dst := some 18, op := Go.Op.load 3 (Go.Operand.tmp 17), type := 3, pos := "l08_draw.go:78", after := #[{ on := 11, ground := Go.Ground.data }], guard := none }) (v := ?_) rfl (by kernel_rfl) (by kernel_rfl) (by kernel_rfl) (fun _ _ _ h => h) (Or.inl ⟨by rfl, ?_⟩) (by assumption) ?_
    rotate_left
    · (intro w hSw; (try dsimp only at hSw); go_simp; try with_reducible rfl)
    try simp only [Act.put, List.setIfInBounds_toArray, List.set_cons_zero, List.set_cons_succ]
    refine wpAnyH_ready (rs := [3]) (by kernel_rfl) (by simp) ?_
    refine AllReadyH.cons (o := { dst := some 9, op := Go.Op.call { callee := Go.Callee.value (Go.Operand.func 30), args := #[Go.Operand.tmp 8], argTypes := #[3] }, type := 9, pos := "l08_draw.go:78", after := #[{ on := 2, ground := Go.Ground.data }], guard := none }) rfl (fun K3 hK3 => ?_) AllReadyH.nil
    go_simp
    (refine (F1.out _ (below_dr hbl1.out)).mono ?_; rintro e v2 ⟨rfl, hb2⟩; have hx2 := Lib.hid (MBox.call (MBox.draws hx1.out 1) hb2); have hbl2 := Lib.hid (below_call (below_dr hbl1.out) hb2); obtain ⟨p0, p1, p2⟩ := hx2.out.1)
    go_wp2_with fail
    refine hK3.out _ _ ?_ (fun hHeld1 => ?_)
    · (try dsimp only); go_keep
    clear hK3 K3 hHeld0
    try simp only [Act.put, List.setIfInBounds_toArray, List.set_cons_zero, List.set_cons_succ]
    refine wpAnyH_take (i := 4) (oi := { dst := some 10, op := Go.Op.binOp Go.BinOp.add 9 (Go.Operand.tmp 9) (Go.Operand.const (Go.Value.string { data := #[32] })) 9, type := 9, pos := "l08_draw.go:78", after := #[{ on := 3, ground := Go.Ground.data }], guard := none }) (v := ?_) rfl (by kernel_rfl) (by kernel_rfl) (by kernel_rfl) (fun _ _ _ h => h) (Or.inl ⟨by rfl, ?_⟩) (by assumption) ?_
    rotate_left
    · (intro w hSw; (try dsimp only at hSw); go_simp; try with_reducible rfl)
    try simp only [Act.put, List.setIfInBounds_toArray, List.set_cons_zero, List.set_cons_succ]
    refine wpAnyH_ready (rs := [8]) (by kernel_rfl) (by simp) ?_
    refine AllReadyH.cons (o := { dst := some 14, op := Go.Op.call { callee := Go.Callee.value (Go.Operand.func 30), args := #[Go.Operand.tmp 13], argTypes := #[3] }, type := 9, pos := "l08_draw.go:78", after := #[{ on := 7, ground := Go.Ground.data }, { on := 3, ground := Go.Ground.chain }], guard := none }) rfl (fun K8 hK8 => ?_) AllReadyH.nil
    go_simp
    (refine (F2.out _ hbl2.out).mono ?_; rintro e v3 ⟨rfl, hb3⟩; have hx3 := Lib.hid (hx2.out.call hb3); have hbl3 := Lib.hid (below_call hbl2.out hb3); obtain ⟨q0, q1, q2⟩ := hx3.out.1)
    go_wp2_with fail
    refine hK8.out _ _ ?_ (fun hHeld2 => ?_)
    · (try dsimp only); go_keep
    clear hK8 K8 hHeld1
    try simp only [Act.put, List.setIfInBounds_toArray, List.set_cons_zero, List.set_cons_succ]
    refine wpAnyH_take (i := 9) (oi := { dst := some 15, op := Go.Op.binOp Go.BinOp.add 9 (Go.Operand.tmp 10) (Go.Operand.tmp 14) 9, type := 9, pos := "l08_draw.go:78", after := #[{ on := 4, ground := Go.Ground.data }, { on := 8, ground := Go.Ground.data }], guard := none }) (v := ?_) rfl (by kernel_rfl) (by kernel_rfl) (by kernel_rfl) (fun _ _ _ h => h) (Or.inl ⟨by rfl, ?_⟩) (by assumption) ?_
    rotate_left
    · (intro w hSw; (try dsimp only at hSw); go_simp; try with_reducible rfl)
    try simp only [Act.put, List.setIfInBounds_toArray, List.set_cons_zero, List.set_cons_succ]
    refine wpAnyH_take (i := 10) (oi := { dst := some 16, op := Go.Op.binOp Go.BinOp.add 9 (Go.Operand.tmp 15) (Go.Operand.const (Go.Value.string { data := #[32] })) 9, type := 9, pos := "l08_draw.go:78", after := #[{ on := 9, ground := Go.Ground.data }], guard := none }) (v := ?_) rfl (by kernel_rfl) (by kernel_rfl) (by kernel_rfl) (fun _ _ _ h => h) (Or.inl ⟨by rfl, ?_⟩) (by assumption) ?_
    rotate_left
    · (intro w hSw; (try dsimp only at hSw); go_simp; try with_reducible rfl)
    try simp only [Act.put, List.setIfInBounds_toArray, List.set_cons_zero, List.set_cons_succ]
    refine wpAnyH_ready (rs := [13]) (by kernel_rfl) (by simp) ?_
    refine AllReadyH.cons (o := { dst := some 19, op := Go.Op.call { callee := Go.Callee.value (Go.Operand.func 30), args := #[Go.Operand.tmp 18], argTypes := #[3] }, type := 9, pos := "l08_draw.go:78", after := #[{ on := 12, ground := Go.Ground.data }, { on := 8, ground := Go.Ground.chain }], guard := none }) rfl (fun K13 hK13 => ?_) AllReadyH.nil
    go_simp
    (refine (F3.out _ hbl3.out).mono ?_; rintro e v4 ⟨rfl, hb4⟩; have hx4 := Lib.hid (hx3.out.call hb4); have hbl4 := Lib.hid (below_call hbl3.out hb4); obtain ⟨r0, r1, r2⟩ := hx4.out.1)
    go_wp2_with fail
    refine hK13.out _ _ ?_ (fun hHeld3 => ?_)
    · (try dsimp only); go_keep
    clear hK13 K13 hHeld2
    try simp only [Act.put, List.setIfInBounds_toArray, List.set_cons_zero, List.set_cons_succ]
    refine wpAnyH_take (i := 14) (oi := { dst := some 20, op := Go.Op.binOp Go.BinOp.add 9 (Go.Operand.tmp 16) (Go.Operand.tmp 19) 9, type := 9, pos := "l08_draw.go:78", after := #[{ on := 10, ground := Go.Ground.data }, { on := 13, ground := Go.Ground.data }], guard := none }) (v := ?_) rfl (by kernel_rfl) (by kernel_rfl) (by kernel_rfl) (fun _ _ _ h => h) (Or.inl ⟨by rfl, ?_⟩) (by assumption) ?_
    rotate_left
    · (intro w hSw; (try dsimp only at hSw); go_simp; try with_reducible rfl)
    try simp only [Act.put, List.setIfInBounds_toArray, List.set_cons_zero, List.set_cons_succ]
    refine wpAnyH_take (i := 15) (oi := { dst := some 2, op := Go.Op.assign (Go.Operand.tmp 20), type := 9, pos := "l08_draw.go:78", after := #[{ on := 14, ground := Go.Ground.data }, { on := 13, ground := Go.Ground.chain }, { on := 0, ground := Go.Ground.phase }, { on := 1, ground := Go.Ground.phase }, { on := 2, ground := Go.Ground.phase }, { on := 3, ground := Go.Ground.phase }, { on := 4, ground := Go.Ground.phase }, { on := 5, ground := Go.Ground.phase }, { on := 6, ground := Go.Ground.phase }, { on := 7, ground := Go.Ground.phase }, { on := 8, ground := Go.Ground.phase }, { on := 9, ground := Go.Ground.phase }, { on := 10, ground := Go.Ground.phase }, { on := 11, ground := Go.Ground.phase }, { on := 12, ground := Go.Ground.phase }, { on := 13, ground := Go.Ground.phase }, { on := 14, ground := Go.Ground.phase }], guard := none }) (v := ?_) rfl (by kernel_rfl) (by kernel_rfl) (by kernel_rfl) (fun _ _ _ h => h) (Or.inl ⟨by rfl, ?_⟩) (by assumption) ?_
    rotate_left
    · (intro w hSw; (try dsimp only at hSw); go_simp; try with_reducible rfl)
    try simp only [Act.put, List.setIfInBounds_toArray, List.set_cons_zero, List.set_cons_succ]
    refine wpAnyH_done (by kernel_rfl) ?_ _
    go_wp2_with fail
    go_ret
    exact HK.out _ _ HE.out hbl4.out
  · rw [show okB x y z = false from decide_eq_false hv] at HO
    have HE : Hid ((⟨(mtL x y z).toArray⟩ : ByteArray) = ⟨#[]⟩) := Lib.hid (by unfold mtL; rw [if_neg hv])
    rw [HE.out] at HK ⊢
    clear hv ht
    go_enter Tryd.func11, Tryd.ntmps11
    go_wp2_with fail
    refine (HO.out _).mono ?_
    rintro e w1 ⟨rfl, hb⟩
    have hbl1 := Lib.hid (below_call (HBl.out (.cells #[.int .i64 x, .int .i64 y, .int .i64 z] 27)) hb)
    clear hb HB HBl HO
    go_wp2_with fail
    go_ret
    exact HK.out _ _ rfl hbl1.out

/-- While a text is read: the answer's block. -/
def PS (W X : World) : Prop := Below W.heap.size W X ∧ Row3 W.heap.size 0 0 0 X
theorem PS.call {W X X' : World} (h : PS W X) (hb : Below X.heap.size X X') : PS W X' := ⟨below_call h.1 hb, h.2.call hb⟩
theorem ps_new (W : World) (T : TypeId) : PS W (W.alloc (.cells #[.int .i64 0, .int .i64 0, .int .i64 0] T)) := ⟨below_box W _, row3_new 0 0 0 W T⟩
/-- The number that a text is read as. -/
theorem pu_val {l : List UInt8} {w w' : World} {e : Ending} (h : PuPost l w e w') : ∃ b, e = .returned (.tuple #[.int .i64 (puZ l), .bool b]) ∧ Below w.heap.size w w' := by
  obtain ⟨⟨v, h1, h2⟩ | ⟨h1, h2⟩, hb⟩ := h
  · exact ⟨true, by rw [h2, puZ_yes h1], hb⟩
  · exact ⟨false, by rw [h2, puZ_no h1], hb⟩

set_option maxRecDepth 100000 in
theorem parseMaze_any (s : ByteArray) (W : World) (hs : s.size ≤ 1048576) (ht : Tab W) (hsyn : Err "strconv.ErrSyntax" W) (hrng : Err "strconv.ErrRange" W) :
    Calls Tryd.prog 10 #[.string s] W (MzB (pmX s.data.toList) (pmY s.data.toList) (pmZ s.data.toList) (pmB s.data.toList) W) := by
  have HY : Hid (∀ x y z, pmT s.data.toList = some (x, y, z) → ∀ X, Below W.heap.size W X → MzB (pmX s.data.toList) (pmY s.data.toList) (pmZ s.data.toList) (pmB s.data.toList) W (.returned (.tuple #[.agg #[.int .i64 x, .int .i64 y, .int .i64 z], .bool true])) X) := fun x y z h X hb => by
    obtain ⟨e1, e2, e3, e4⟩ := pm_some h
    rw [e1, e2, e3, e4]; exact ⟨rfl, hb⟩
  have HZ : Hid (pmT s.data.toList = none → ∀ X, Below W.heap.size W X → MzB (pmX s.data.toList) (pmY s.data.toList) (pmZ s.data.toList) (pmB s.data.toList) W (.returned (.tuple #[.agg #[.int .i64 0, .int .i64 0, .int .i64 0], .bool false])) X) := fun h X hb => by
    obtain ⟨e1, e2, e3, e4⟩ := pm_none h
    rw [e1, e2, e3, e4]; exact ⟨rfl, hb⟩
  have HPS := Lib.hid (fun T => ps_new W T)
  have HSp := Lib.hid (fun X => splI.split_any s X (Nat.le_trans hs (by decide)))
  have HP := Lib.hid (fun (a : List UInt8) X (hl : a.length ≤ 600) (h : Below W.heap.size W X) => puI.parse_any ⟨a.toArray⟩ X (Nat.le_trans (show a.toArray.size ≤ 600 by simpa using hl) (by decide)) (ht.below h) (hsyn.below h) (hrng.below h))
  have HM0 := Lib.hid (fun x y z X (h : Below W.heap.size W X) => mazeText_any x y z X (ht.below h))
  generalize hG : MzB (pmX s.data.toList) (pmY s.data.toList) (pmZ s.data.toList) (pmB s.data.toList) W = G at *
  clear ht hsyn hrng
  go_enter Tryd.func10, Tryd.ntmps10
  go_wp2_with fail
  have ps0 := Lib.hid (HPS.out 27)
  refine (HSp.out _).mono ?_
  rintro e w1 ⟨v, fs, b, rfl, hans, ho, hb⟩
  have ps1 := Lib.hid (ps0.out.call hb)
  have Ho := Lib.hid ho
  clear hb ho ps0 HPS HSp hG
  by_cases h3 : fs.length = 3
  · obtain ⟨hok, rfl, rfl⟩ : OK s ∧ b = true ∧ fs = split s.data.toList := by
      rcases hans with h | ⟨_, _, h⟩
      · exact h
      · rw [h] at h3; simp at h3
    obtain ⟨a, b, c, hsp⟩ : ∃ a b c, split s.data.toList = [a, b, c] := by
      rcases hq : split s.data.toList with _ | ⟨a, _ | ⟨b, _ | ⟨c, _ | ⟨d, t⟩⟩⟩⟩ <;> rw [hq] at h3 <;> simp at h3
      exact ⟨a, b, c, rfl⟩
    have hl : ∀ u ∈ split s.data.toList, u.length ≤ 600 := fun u hu => Nat.le_trans (field_len _ u hu) (by rw [Array.length_toList]; exact hok.1)
    have la := hl a (by rw [hsp]; simp); have lb := hl b (by rw [hsp]; simp); have lc := hl c (by rw [hsp]; simp)
    have FA := Lib.hid (fun X h => HP.out a X la h)
    have FB := Lib.hid (fun X h => HP.out b X lb h)
    have FC := Lib.hid (fun X h => HP.out c X lc h)
    have HT : Hid (mtL (puZ a) (puZ b) (puZ c) = s.data.toList → pmT s.data.toList = some (puZ a, puZ b, puZ c)) := Lib.hid (fun h => by
      have hv : OkM (puZ a) (puZ b) (puZ c) := by
        apply Classical.byContradiction
        intro hn
        unfold mtL at h
        rw [if_neg hn] at h
        rw [← h] at hsp
        simp [split, scan, close] at hsp
      unfold pmT
      rw [hsp]
      exact if_pos ⟨hv, h⟩)
    have HTn : Hid (¬ mtL (puZ a) (puZ b) (puZ c) = s.data.toList → pmT s.data.toList = none) := Lib.hid (fun h => by
      unfold pmT
      rw [hsp]
      exact if_neg (fun h' => h h'.2))
    rw [hsp] at Ho
    obtain ⟨g, cg, rfl, hg, hgs⟩ := own_some Ho.out (by simp)
    have k0 : w1.cell? ⟨g, 0, none⟩ = some (.string ⟨a.toArray⟩) := by rw [Ho.out.cellAt 0 (by simp)]; rfl
    simp only [List.length_cons, List.length_nil] at Ho
    clear hl la lb lc hok h3 hans HP
    clear hsp
    go_wp2_with fail
    refine (FA.out _ ps1.out.1).mono ?_
    rintro e w2 hpu
    obtain ⟨ba, rfl, hb⟩ := pu_val hpu
    have ps2 := Lib.hid (ps1.out.call hb)
    have Ho2 := Lib.hid (own_call Ho.out hb)
    have k1 : w2.cell? ⟨g, 1, none⟩ = some (.string ⟨b.toArray⟩) := by rw [Ho2.out.cellAt 1 (by simp)]; rfl
    clear hb hpu ps1 Ho k0
    generalize puZ a = x at *
    go_wp2_with fail
    refine (FB.out _ ps2.out.1).mono ?_
    rintro e w3 hpu
    obtain ⟨bb, rfl, hb⟩ := pu_val hpu
    have ps3 := Lib.hid (ps2.out.call hb)
    have Ho3 := Lib.hid (own_call Ho2.out hb)
    have k2 : w3.cell? ⟨g, 2, none⟩ = some (.string ⟨c.toArray⟩) := by rw [Ho3.out.cellAt 2 (by simp)]; rfl
    clear hb hpu ps2 Ho2 k1
    generalize puZ b = y at *
    go_wp2_with fail
    refine (FC.out _ ps3.out.1).mono ?_
    rintro e w4 hpu
    obtain ⟨bc, rfl, hb⟩ := pu_val hpu
    have ps4 := Lib.hid (ps3.out.call hb)
    clear hb hpu ps3 Ho3 k2
    generalize puZ c = z at *
    have HM := Lib.hid (fun X h => HM0.out x y z X h)
    clear FA FB FC HM0
    go_wp2_with fail
    have ps5 := Lib.hid (ps4.out.call (below_box w4 (.cells #[.int .i64 x, .int .i64 y, .int .i64 z] 27)))
    have hm5 := Lib.hid (row3_new x y z w4 27)
    generalize w4.alloc (.cells #[.int .i64 x, .int .i64 y, .int .i64 z] 27) = w5 at *
    generalize w4.heap.size = B at *
    clear ps4
    by_cases ht : mtL x y z = s.data.toList
    · have HE := Lib.hid (HY.out x y z (HT.out ht))
      rw [show (⟨(mtL x y z).toArray⟩ : ByteArray) = s from by rw [ht]] at HM
      clear ht HY HZ HT HTn
      refine (HM.out _ ps5.out.1).mono ?_
      rintro e w7 ⟨rfl, hb⟩
      have hbl := Lib.hid (ps5.out.call hb).1
      obtain ⟨⟨e0, e1, e2⟩, f0, f1, f2⟩ := row3_cells (ps5.out.call hb).2
      have hm7 := hm5.out.call hb
      clear hm5 ps5 HM
      obtain ⟨⟨m0, m1, m2⟩, -⟩ := row3_cells hm7
      clear hb hm7
      go_wp2_with fail
      refine bodyPost_ret (v := .tuple #[.agg #[.int .i64 x, .int .i64 y, .int .i64 z], .bool true]) (by simp [results, Tryd.results10, go_sem, e0, e1, e2]) rfl (HE.out _ ?_)
      repeat (first | exact hbl.out | refine Below.setCell ?_ (by simp) _)
    · have HE := Lib.hid (HZ.out (HTn.out ht))
      obtain ⟨t, hte⟩ : ∃ t : ByteArray, t = ⟨(mtL x y z).toArray⟩ := ⟨_, rfl⟩
      rw [← hte] at HM
      have hsb : (t.toList == s.toList) = false := by
        rw [beq_eq_false_iff_ne]; intro e
        have e' : t.data.toList = s.data.toList := by simpa [ByteArray.toList_eq] using e
        exact ht (by rw [← e', hte])
      clear ht HY HZ HT HTn hte
      refine (HM.out _ ps5.out.1).mono ?_
      rintro e w7 ⟨rfl, hb⟩
      have hbl := Lib.hid (ps5.out.call hb).1
      obtain ⟨⟨e0, e1, e2⟩, f0, f1, f2⟩ := row3_cells (ps5.out.call hb).2
      clear hm5 ps5 HM hb
      go_wp2_with fail
      refine bodyPost_ret (v := .tuple #[.agg #[.int .i64 0, .int .i64 0, .int .i64 0], .bool false]) (by simp [results, Tryd.results10, go_sem, e0, e1, e2]) rfl (HE.out _ ?_)
      repeat (first | exact hbl.out | refine Below.setCell ?_ (by simp) _)
  · have HE : Hid (∀ X, Below W.heap.size W X → G (.returned (.tuple #[.agg #[.int .i64 0, .int .i64 0, .int .i64 0], .bool false])) X) := Lib.hid (HZ.out (by
      rcases hans with ⟨hok, _, rfl⟩ | ⟨hok, _, _⟩
      · exact pm_len h3
      · exact pm_no fun x y z hv e => hok (by
          have := mt_ok hv
          rw [e] at this
          exact this)))
    have hn3 : ((fs.length : Int) != 3) = true := by simp; omega
    obtain ⟨A, c, rfl⟩ := intsP.own_form Ho.out
    obtain ⟨⟨e0, e1, e2⟩, f0, f1, f2⟩ := row3_cells ps1.out.2
    have hbl := Lib.hid ps1.out.1
    clear Ho hans
    generalize fs.length = m at *
    clear h3
    go_wp2_with fail
    refine bodyPost_ret (v := .tuple #[.agg #[.int .i64 0, .int .i64 0, .int .i64 0], .bool false]) (by simp [results, Tryd.results10, go_sem, e0, e1, e2]) rfl (HE.out _ ?_)
    repeat (first | exact hbl.out | refine Below.setCell ?_ (by simp) _)
end Go.Proofs.YtmmdngfhfceefaaDoor.txtI
