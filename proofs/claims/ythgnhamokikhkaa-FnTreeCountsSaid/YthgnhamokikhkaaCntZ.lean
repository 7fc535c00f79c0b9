/- Lists of mazes that a call writes. -/
import Derived.Test.YthgnhamokikhkaaListK
import Derived.Test.YthgnhamokikhkaaMzB
import Derived.Test.YthgnhamokikhkaaCntL
import Derived.Test.YthgnhamokikhkaaRchM
import Derived.Test.YthgnhamokikhkaaPerfM
import Derived.Test.YthgnhamokikhkaaModD
import Derived.Deep.AppendLies

namespace Go.Proofs.Ythgnhamokikhkaa.listZ
open Go.ChangeShapes Go.WideShapes Go.ChangeAt Go.RowKit
open draw gridC mazeC mazeM mazeR intsP reachD intA listK
set_option linter.unusedVariables false

/-- The cells of a list of mazes. -/
def zcl (l : List (Int × Int × Int)) : List Value := l.flatMap fun s => [.int .i64 s.1, .int .i64 s.2.1, .int .i64 s.2.2]
theorem zcl_len (l : List (Int × Int × Int)) : (zcl l).length = l.length * 3 := by
  induction l with
  | nil => rfl
  | cons a l ih => show ([_, _, _] ++ zcl l).length = _; rw [List.length_append, ih]; simp; omega
theorem zcl_app (l l' : List (Int × Int × Int)) : zcl (l ++ l') = zcl l ++ zcl l' := by simp [zcl]
theorem zcl_at : ∀ (l : List (Int × Int × Int)) (k : Nat) (s : Int × Int × Int), l[k]? = some s → (zcl l)[3 * k]? = some (.int .i64 s.1) ∧ (zcl l)[3 * k + 1]? = some (.int .i64 s.2.1) ∧ (zcl l)[3 * k + 2]? = some (.int .i64 s.2.2)
  | [], k, s, h => by simp at h
  | a :: l, 0, s, h => by
    obtain rfl : a = s := by simpa using h
    exact ⟨rfl, rfl, rfl⟩
  | a :: l, k + 1, s, h => by
    have := zcl_at l k s (by simpa using h)
    rw [show 3 * (k + 1) = 3 * k + 1 + 1 + 1 by omega]
    exact this
theorem zcl_one (l : List (Int × Int × Int)) : ∀ u ∈ zcl l, u.oneCell' = true := by
  intro u hu
  obtain ⟨s, -, hs⟩ := List.mem_flatMap.1 hu
  simp at hs
  rcases hs with rfl | rfl | rfl <;> rfl
theorem info_mz : (Try.prog.info? 27).map (fun i => (i.zero, i.size, i.bytes)) = some (some (.agg #[.int .i64 0, .int .i64 0, .int .i64 0]), 3, 24) := by kernel_rfl

/-- A call answers a list of mazes of its own and leaves all that was there. -/
def Mzs (l : List (Int × Int × Int)) (w : World) (e : Ending) (w' : World) : Prop := ∃ v, e = .returned v ∧ w'.ownsRow w.heap.size 27 3 v l.length (zcl l) ∧ Below w.heap.size w w'
theorem mzs_mk {l : List (Int × Int × Int)} {w w' : World} {v : Value} {n base : Nat} (hn : n = l.length) (ho : w'.ownsRow base 27 3 v n (zcl l)) (hB : w.heap.size ≤ base) (hb : Below w.heap.size w w') : Mzs l w (.returned v) w' := by
  subst hn
  exact ⟨v, rfl, own_base ho hB, hb⟩
/-- The same, and the list is not nil. -/
def MzN (l : List (Int × Int × Int)) (w : World) (e : Ending) (w' : World) : Prop := ∃ g c, e = .returned (.slice (some ⟨g, 0, none⟩) l.length c) ∧ w'.ownsRow w.heap.size 27 3 (.slice (some ⟨g, 0, none⟩) l.length c) l.length (zcl l) ∧ Below w.heap.size w w'
theorem MzN.all {l : List (Int × Int × Int)} {w w' : World} {e : Ending} (h : MzN l w e w') : Mzs l w e w' := by
  obtain ⟨g, c, h1, h2, h3⟩ := h
  exact ⟨_, h1, h2, h3⟩
theorem own_not_nil {w : World} {base n s : Nat} {e : TypeId} {v : Value} {xs : List Value} (h : w.ownsRow base e s v n xs) (hn : ¬ v = .slice none 0 0) : ∃ g c, v = .slice (some ⟨g, 0, none⟩) n c := by
  rcases h.2 with ⟨e1, -⟩ | ⟨g, cap, cur, rfl, -⟩
  · exact absurd e1 hn
  · exact ⟨g, cap, rfl⟩
/-- A list l of mazes that is written, in blocks from b on. -/
def ZL (W : World) (b : Nat) (l : List (Int × Int × Int)) (v : Value) (X : World) : Prop :=
  Below W.heap.size W X ∧ W.heap.size ≤ b ∧ b ≤ X.heap.size ∧ X.ownsRow b 27 3 v l.length (zcl l)
theorem ZL.call {W X X' : World} {b : Nat} {l : List (Int × Int × Int)} {v : Value} (h : ZL W b l v X) (hb : Below X.heap.size X X') : ZL W b l v X' :=
  ⟨below_call h.1 hb, h.2.1, Nat.le_trans h.2.2.1 hb.size, own_call h.2.2.2 hb⟩
theorem ZL.form {W X : World} {b : Nat} {l : List (Int × Int × Int)} {v : Value} (h : ZL W b l v X) : ∃ A c, v = .slice A l.length c := intsP.own_form h.2.2.2
theorem zl_new {W X : World} (h : Below W.heap.size W X) (hz : W.heap.size ≤ X.heap.size) : ZL W X.heap.size [] (.slice (some ⟨X.heap.size, 0, none⟩) 0 0) (X.alloc (.cells #[] 27)) := by
  refine ⟨h.alloc hz _, hz, by simp, ?_⟩
  have := World.ownsRow_lit (base := X.heap.size) (e := 27) (size := 3) X #[] 0 (Nat.le_refl _) (by decide) rfl
  simpa [zcl] using this
theorem zl_nil {W X : World} {b : Nat} (h : Below W.heap.size W X) (hW : W.heap.size ≤ b) (hb : b ≤ X.heap.size) : ZL W b [] (.slice none 0 0) X := ⟨h, hW, hb, World.ownsRow_nil X b 27 3⟩
/-- A list of one maze that was just built. -/
theorem zl_one {W X : World} (h : Below W.heap.size W X) (hz : W.heap.size ≤ X.heap.size) (s : Int × Int × Int) : ZL W X.heap.size [s] (.slice (some ⟨X.heap.size, 0, none⟩) 1 1) (X.alloc (.cells #[.int .i64 s.1, .int .i64 s.2.1, .int .i64 s.2.2] 27)) := by
  refine ⟨h.alloc hz _, hz, by simp, ?_⟩
  have := World.ownsRow_lit (base := X.heap.size) (e := 27) (size := 3) X #[.int .i64 s.1, .int .i64 s.2.1, .int .i64 s.2.2] 1 (Nat.le_refl _) (by decide) rfl
  simpa [zcl] using this
theorem ZL.app {W X X' : World} {b gg cap : Nat} {l : List (Int × Int × Int)} {v : Value} {o : Obj} {u : Int × Int × Int} (h : ZL W b l v X)
    (ho : X'.ownsRow b 27 3 (.slice (some ⟨gg, 0, none⟩) (l.length + 1) cap) (l.length + 1) (zcl l ++ zcl [u])) (hg : (X.alloc o).grownBy X' v.ownBlock) :
    ZL W b (l ++ [u]) (.slice (some ⟨gg, 0, none⟩) (l.length + 1) cap) X' ∧ Below b X X' := by
  obtain ⟨h1, h2, h3, h4⟩ := h
  have hb : Below b X X' := below_app (Below.refl _ _) (Nat.le_refl _) h3 h4 hg
  refine ⟨⟨below_app h1 h2 (Nat.le_refl _) h4 hg, h2, Nat.le_trans h3 hb.size, ?_⟩, hb⟩
  rw [List.length_append, zcl_app]; exact ho
/-- The cells of a maze in a list that is owned. -/
theorem zl_cell {X : World} {base g c n i : Nat} {l : List (Int × Int × Int)} {s : Int × Int × Int} (h : X.ownsRow base 27 3 (.slice (some ⟨g, 0, none⟩) n c) n (zcl l)) (hs : l[i]? = some s) : X.cell? ⟨g, i * 3, none⟩ = some (.int .i64 s.1) ∧ X.cell? ⟨g, i * 3 + 1, none⟩ = some (.int .i64 s.2.1) ∧ X.cell? ⟨g, i * 3 + 2, none⟩ = some (.int .i64 s.2.2) := by
  have hi : i < l.length := (List.getElem?_eq_some_iff.1 hs).1
  have hn : n * 3 = l.length * 3 := by have := h.1; rw [zcl_len] at this; omega
  obtain ⟨a, b, c⟩ := zcl_at l i s hs
  rw [Nat.mul_comm i 3]
  exact ⟨(h.cellAt (3 * i) (by omega)).trans a, (h.cellAt (3 * i + 1) (by omega)).trans b, (h.cellAt (3 * i + 2) (by omega)).trans c⟩

/-- An append of a whole list, of no elements too, at a plain region's operation. -/
theorem wpList_app {P : Program} {ops : Array Oper} {rest : List Oper} {o : Oper} {a : Act} {w : World} {Q : Exit → Act → World → Prop}
    (hg : o.guard = none) (s x : Operand) (t : TypeId) (hop : o.op = Op.call { callee := Callee.builtin Builtin.append, args := #[s, x], argTypes := #[t, t] })
    (base : Nat) (e : TypeId) (i : TypeInfo) (z : Value) (size bytes : Nat) (h1 : P.underlying t = some (.slice e)) (h2 : P.info? e = some i) (h3 : i.zero = some z) (h4 : i.size = size) (h5 : i.bytes = bytes) (h6 : z.cells.size = size) (h7 : 0 < size)
    (v : Value) (n : Nat) (xs : List Value) (hs : a.eval s = v) (hown : w.ownsRow base e size v n xs)
    (ad : Addr) (m c : Nat) (news : List Value) (hx : a.eval x = .slice (some ad) m c) (hn : news.length = m * size) (hc : ∀ j u, news[j]? = some u → w.cell? (ad.add j) = some u) (h1c : ∀ u ∈ news, u.oneCell' = true)
    (N : Nat) (ys : List Value) (hN : n + m = N) (hy : xs ++ news = ys) (b1 : N ≤ maxLen) (b2 : N * bytes ≤ 140737488355328) (hb : base ≤ w.heap.size)
    (hK : ∀ v' w', w'.ownsRow base e size v' N ys → w.grownBy w' v.ownBlock → (v' = .slice none 0 0 ↔ v = .slice none 0 0 ∧ m = 0) → wpList P ops Q rest (a.put o.dst v') w') : wpList P ops Q (o :: rest) a w := by
  subst hN hy
  obtain ⟨v', w', hrun, r1, r2, r3, -⟩ := run_append_own_at (P := P) w base t o.type e i z size bytes h1 h2 h3 h4 h5 h6 h7 v n xs hown ad m c news hn hc h1c b1 b2 hb
  refine wpList_plain hg fun K hKK => ?_
  unfold Oper.wp
  simp [execOp, hop, resolve, invoke, builtin, hs, hx, hrun, Result.andThen]
  exact hKK _ _ (hK v' w' r1 r2 r3)
end Go.Proofs.Ythgnhamokikhkaa.listZ

/- The contracts of the model's list of perfect mazes. -/
namespace Go.Proofs.Ythgnhamokikhkaa.cntV
open Go.ChangeShapes Go.WideShapes Go.ChangeAt Go.RowKit
open draw gridP gridC gridE bitP mazeP mazeQ mazeC mazeM mazeR mazeS intsP reachD intA intK listK forest reachM cntQ cntL listZ perfP perfM
open matQ (below_step)
set_option linter.unusedVariables false

theorem bt_btB {o k : Nat} : btB (o : Int) (k : Int) = decide (bt o k = 1) := by
  unfold btB
  rw [bitZ_bt (by omega) (by omega), Int.toNat_natCast, Int.toNat_natCast, decide_eq_decide]
  omega
/-- Mazes of a grid by their numbers. -/
def mzL (x y : Int) (l : List Nat) : List (Int × Int × Int) := l.map fun s : Nat => (x, y, (s : Int))
theorem mzL_len (x y : Int) (l : List Nat) : (mzL x y l).length = l.length := by simp [mzL]
theorem mzL_app (x y : Int) (l l' : List Nat) : mzL x y (l ++ l') = mzL x y l ++ mzL x y l' := by simp [mzL]
theorem mzn_mk {l : List (Int × Int × Int)} {w w' : World} {g c n b : Nat} (hn : n = l.length) (ho : w'.ownsRow b 27 3 (.slice (some ⟨g, 0, none⟩) n c) n (zcl l)) (hB : w.heap.size ≤ b) (hb : Below w.heap.size w w') : MzN l w (.returned (.slice (some ⟨g, 0, none⟩) n c)) w' := by
  subst hn
  exact ⟨g, c, rfl, own_base ho hB, hb⟩

theorem two_boxes (W : World) (x y o c : Int) (T : TypeId) : Below W.heap.size W ((W.alloc (.cells #[.int .i64 x, .int .i64 y, .int .i64 o] T)).alloc (.cells #[.int .i64 x, .int .i64 y, .int .i64 c] T)) ∧
    MBox W.heap.size x y o ((W.alloc (.cells #[.int .i64 x, .int .i64 y, .int .i64 o] T)).alloc (.cells #[.int .i64 x, .int .i64 y, .int .i64 c] T)) ∧ MBox (W.heap.size + 1) x y c ((W.alloc (.cells #[.int .i64 x, .int .i64 y, .int .i64 o] T)).alloc (.cells #[.int .i64 x, .int .i64 y, .int .i64 c] T)) ∧
    ((W.alloc (.cells #[.int .i64 x, .int .i64 y, .int .i64 o] T)).alloc (.cells #[.int .i64 x, .int .i64 y, .int .i64 c] T)).heap.size = W.heap.size + 1 + 1 := by
  refine ⟨below_call (below_box _ _) (below_box _ _), mbox_two x y o W T _, ?_, by simp⟩
  have := mbox_new x y c (W.alloc (.cells #[.int .i64 x, .int .i64 y, .int .i64 o] T)) T
  rwa [show (W.alloc (.cells #[.int .i64 x, .int .i64 y, .int .i64 o] T)).heap.size = W.heap.size + 1 from by simp] at this

theorem list_done (x y : Int) (o k c : Nat) (W : World) (hk24 : k ≤ 24) :
    Calls Try.prog 123 #[.agg #[.int .i64 x, .int .i64 y, .int .i64 o], .agg #[.int .i64 x, .int .i64 y, .int .i64 c], .int .i64 ((k : Int) - 1), .int .i64 0] W (MzN (mzL x y (ltN x y o k c 0)) W) := by
  rw [lt_zero]
  have HK := @Lib.hid _ (fun w' g cc n b => @mzn_mk (mzL x y [c]) W w' g cc n b)
  have H2 := Lib.hid (two_boxes W x y o c)
  go_enter Try.func123, Try.ntmps123
  go_wp2_with fail
  go_ret
  have h2 := H2.out 27
  generalize (W.alloc (.cells #[.int .i64 x, .int .i64 y, .int .i64 o] 27)).alloc (.cells #[.int .i64 x, .int .i64 y, .int .i64 c] 27) = w1 at *
  obtain ⟨b1, -, -, hs⟩ := h2
  have h1 := zl_one b1 b1.size (x, y, (c : Int))
  rw [hs] at h1
  exact HK.out _ _ _ _ (W.heap.size + 1 + 1) rfl h1.2.2.2 h1.2.1 h1.1
theorem list_none (x y : Int) (o k c need : Nat) (W : World) (hk24 : k ≤ 24) (hn : need + 1 > k) (hn1 : need < 100) :
    Calls Try.prog 123 #[.agg #[.int .i64 x, .int .i64 y, .int .i64 o], .agg #[.int .i64 x, .int .i64 y, .int .i64 c], .int .i64 ((k : Int) - 1), .int .i64 ((need + 1 : Nat) : Int)] W (MzN [] W) := by
  have HK := @Lib.hid _ (fun w' g cc n b => @mzn_mk [] W w' g cc n b)
  have H2 := Lib.hid (two_boxes W x y o c)
  obtain ⟨d, hd⟩ : ∃ d : Int, ((need + 1 : Nat) : Int) = d := ⟨_, rfl⟩
  have hd0 : (d == 0) = false := by rw [beq_eq_false_iff_ne]; omega
  have hw2 : IntKind.i64.wrap ((k : Int) - 1 + 1) = (k : Int) := by rw [show (k : Int) - 1 + 1 = (k : Int) by omega]; exact IntWalk.i64_in _ (by omega)
  have hd1 : decide ((k : Int) < d) = true := decide_eq_true (by omega)
  rw [hd]
  clear hd
  go_enter Try.func123, Try.ntmps123
  go_wp2_with fail
  go_ret
  have h2 := H2.out 27
  generalize (W.alloc (.cells #[.int .i64 x, .int .i64 y, .int .i64 o] 27)).alloc (.cells #[.int .i64 x, .int .i64 y, .int .i64 c] 27) = w1 at *
  obtain ⟨b1, -, -, hs⟩ := h2
  have h1 := zl_new b1 b1.size
  rw [hs] at h1
  exact HK.out _ _ _ _ (W.heap.size + 1 + 1) rfl h1.2.2.2 h1.2.1 h1.1
theorem sg_add {x y : Int} {c k : Nat} (hk : OkZ x y) (hc : c < 2 ^ gN x y) (hg : k < gN x y) (hb : bt c k = 0) : sgZ x y c k true = ((c + 2 ^ k : Nat) : Int) := by
  have hv := okm hk hc
  have hk2 : (k : Int) < gpsZ x y := by unfold gN at hg; omega
  unfold sgZ
  rw [show sgB x y c k = true from decide_eq_true ⟨hv, by omega, hk2⟩, if_pos rfl, bitZ_bt (by omega) (by omega), Int.toNat_natCast, Int.toNat_natCast, hb]
  simp

set_option maxRecDepth 100000 in
set_option maxHeartbeats 4000000 in
theorem list_step (x y : Int) (o k : Nat) (hk : OkZ x y) (ho : o < 2 ^ gN x y) (hkg : k < gN x y)
    (IH : ∀ (c need : Nat) (W : World), c < 2 ^ gN x y → need ≤ 100 →
      Calls Try.prog 123 #[.agg #[.int .i64 x, .int .i64 y, .int .i64 o], .agg #[.int .i64 x, .int .i64 y, .int .i64 c], .int .i64 ((k : Int) - 1), .int .i64 need] W (MzN (mzL x y (ltN x y o k c need)) W))
    (c need : Nat) (W : World) (hc : c < 2 ^ gN x y) (hn : need < 100) (hnk : ¬ need + 1 > k + 1) :
    Calls Try.prog 123 #[.agg #[.int .i64 x, .int .i64 y, .int .i64 o], .agg #[.int .i64 x, .int .i64 y, .int .i64 c], .int .i64 (((k + 1 : Nat) : Int) - 1), .int .i64 ((need + 1 : Nat) : Int)] W (MzN (mzL x y (ltN x y o (k + 1) c (need + 1))) W) := by
  have hg24 : gN x y ≤ 24 := by have := gps_bd hk.1 hk.2.1 hk.2.2.1 hk.2.2.2; unfold gN; omega
  have h24 : 2 ^ gN x y ≤ 16777216 := Nat.le_trans (Nat.pow_le_pow_right (by decide) hg24) (by decide)
  have H2 := Lib.hid (two_boxes W x y o c)
  obtain ⟨d, hd⟩ : ∃ d : Int, ((need + 1 : Nat) : Int) = d := ⟨_, rfl⟩
  have hd0 : (d == 0) = false := by rw [beq_eq_false_iff_ne]; omega
  have hd1 : decide ((k : Int) + 1 < d) = false := decide_eq_false (by omega)
  have hw1 : IntKind.i64.wrap ((k : Int) + 1) = (k : Int) + 1 := IntWalk.i64_in _ (by omega)
  have hw2 : IntKind.i64.wrap ((k : Int) - 1) = (k : Int) - 1 := IntWalk.i64_in _ (by omega)
  have hw3 : IntKind.i64.wrap (d - 1) = (need : Int) := by rw [show d - 1 = (need : Int) by omega]; exact IntWalk.i64_in _ (by omega)
  have HI1 := Lib.hid (fun X => IH c (need + 1) X hc (by omega))
  rw [hd] at HI1
  rw [hd, show ((k + 1 : Nat) : Int) - 1 = (k : Int) by omega]
  have HT1 := Lib.hid (fun X => bit_b o k X (by omega) (by omega) (by omega) (by omega))
  rw [bt_btB] at HT1
  have HW1 := Lib.hid (fun X => wouldJoin_any x y c k X)
  have hlt := lt_next x y o k c need
  rw [if_neg hnk] at hlt
  have HL1 := Lib.hid (lt_len x y o k c (need + 1))
  have hk24 : k ≤ 24 := by omega
  have hp24 : 2 ^ k ≤ 16777216 := Nat.le_trans (Nat.pow_le_pow_right (by decide) hk24) (by decide)
  by_cases hj : bt o k = 1 ∧ wjB x y c k = true
  · rw [if_pos hj] at hlt
    rw [decide_eq_true hj.1] at HT1
    rw [hj.2] at HW1
    have hwj := (wj_iff hk hc hkg).1 hj.2
    have HS1 := Lib.hid (fun X => setGap_any x y c k true X)
    rw [sg_add hk hc hkg hwj.1] at HS1
    have HI2 := Lib.hid (fun X => IH (c + 2 ^ k) need X (add_lt hc hkg hwj.1) (by omega))
    have HL2 := Lib.hid (lt_len x y o k (c + 2 ^ k) need)
    have HK := @Lib.hid _ (fun w' g cc n b => @mzn_mk (mzL x y (ltN x y o (k + 1) c (need + 1))) W w' g cc n b)
    rw [hlt] at HK ⊢
    obtain ⟨iz, hiz, hy0, hy1, hy2⟩ := info_parts info_mz
    clear hlt hj hwj hk hc hkg ho IH h24 hd
    generalize ltN x y o k c (need + 1) = l1 at *
    generalize ltN x y o k (c + 2 ^ k) need = l2 at *
    generalize (c + 2 ^ k) = c2 at *
    generalize sgB x y c k = sb at *
    go_enter Try.func123, Try.ntmps123
    go_wp2_with fail
    have h2 := Lib.hid (H2.out 27)
    clear H2
    generalize (W.alloc (.cells #[.int .i64 x, .int .i64 y, .int .i64 o] 27)).alloc (.cells #[.int .i64 x, .int .i64 y, .int .i64 c] 27) = w1 at *
    refine (HI1.out _).mono ?_
    rintro e w2 ⟨g1, c1, rfl, ho1, hb⟩
    have HO1 := Lib.hid ho1
    have hbl := Lib.hid (below_call h2.out.1 hb)
    have hx := Lib.hid (h2.out.2.1.call hb)
    have hy := Lib.hid (h2.out.2.2.1.call hb)
    have hws := Lib.hid (show W.heap.size ≤ w1.heap.size ∧ w1.heap.size ≤ w2.heap.size from ⟨h2.out.1.size, hb.size⟩)
    clear hb ho1 h2 HI1
    obtain ⟨x0, x1, x2⟩ := hx.out.1
    obtain ⟨y0, y1, y2⟩ := hy.out.1
    go_wp2_with fail
    refine (HT1.out _).mono ?_
    rintro e w' ⟨rfl, rfl⟩
    go_wp2_with fail
    refine (HW1.out _).mono ?_
    rintro e w3 ⟨rfl, hb⟩
    have HO2 := Lib.hid (own_call HO1.out hb)
    have hbl2 := Lib.hid (below_call hbl.out hb)
    have hx2 := Lib.hid (hx.out.call hb)
    have hy2' := Lib.hid (hy.out.call hb)
    have hws2 := Lib.hid (show W.heap.size ≤ w1.heap.size ∧ w1.heap.size ≤ w3.heap.size from ⟨hws.out.1, Nat.le_trans hws.out.2 hb.size⟩)
    clear hb HO1 hbl hx hy x0 x1 x2 y0 y1 y2 hws
    obtain ⟨x0, x1, x2⟩ := hx2.out.1
    obtain ⟨y0, y1, y2⟩ := hy2'.out.1
    go_wp2_with fail
    refine (HS1.out _).mono ?_
    rintro e w4 ⟨rfl, hb⟩
    have HO3 := Lib.hid (own_call HO2.out hb)
    have hbl3 := Lib.hid (below_call hbl2.out hb)
    have hx3 := Lib.hid (hx2.out.call hb)
    have hws3 := Lib.hid (show W.heap.size ≤ w1.heap.size ∧ w1.heap.size ≤ w4.heap.size from ⟨hws2.out.1, Nat.le_trans hws2.out.2 hb.size⟩)
    clear hb HO2 hbl2 hx2 hy2' x0 x1 x2 y0 y1 y2 hws2
    have hb5 := below_box w4 (.cells #[.int .i64 x, .int .i64 y, .int .i64 (c2 : Int)] 27)
    have HO4 := Lib.hid (own_call HO3.out hb5)
    have hbl4 := Lib.hid (below_call hbl3.out hb5)
    have hx4 := Lib.hid (hx3.out.call hb5)
    have hm4 := Lib.hid (mbox_new x y c2 w4 27)
    have hws4 := Lib.hid (show W.heap.size ≤ w1.heap.size ∧ w1.heap.size ≤ (w4.alloc (.cells #[.int .i64 x, .int .i64 y, .int .i64 (c2 : Int)] 27)).heap.size from ⟨hws3.out.1, Nat.le_trans hws3.out.2 hb5.size⟩)
    clear hb5 HO3 hbl3 hx3 hws3
    obtain ⟨x0, x1, x2⟩ := hx4.out.1
    obtain ⟨z0, z1, z2⟩ := hm4.out.1
    go_wp2_with fail
    generalize w4.alloc (.cells #[.int .i64 x, .int .i64 y, .int .i64 (c2 : Int)] 27) = w5 at *
    refine (HI2.out _).mono ?_
    rintro e w6 ⟨g2, c6, rfl, ho6, hb⟩
    have HO5 := Lib.hid (own_call HO4.out hb)
    have HO6 := Lib.hid ho6
    have hbl5 := Lib.hid (below_call hbl4.out hb)
    have hws5 := Lib.hid (show W.heap.size ≤ w1.heap.size ∧ w1.heap.size ≤ w6.heap.size from ⟨hws4.out.1, Nat.le_trans hws4.out.2 hb.size⟩)
    clear hb ho6 HO4 hbl4 hx4 hm4 hws4 x0 x1 x2 z0 z1 z2
    have HLn : Hid ((mzL x y l1).length = l1.length ∧ (mzL x y l2).length = l2.length ∧ (mzL x y (l1 ++ l2)).length = l1.length + l2.length ∧ zcl (mzL x y l1) ++ zcl (mzL x y l2) = zcl (mzL x y (l1 ++ l2))) := Lib.hid ⟨mzL_len _ _ _, mzL_len _ _ _, by rw [mzL_len, List.length_append], by rw [mzL_app, zcl_app]⟩
    have HCe : Hid (∀ j u, (zcl (mzL x y l2))[j]? = some u → w6.cell? ((⟨g2, 0, none⟩ : Addr).add j) = some u) := Lib.hid fun j u hj => by
      rw [Addr.add_lit, Nat.zero_add]
      exact (HO6.out.cellAt j (by have h1 := (List.getElem?_eq_some_iff.1 hj).1; have h2 := HO6.out.1; omega)).trans hj
    go_wp2_with (at_builtin; go_loud (refine wpList_app rfl (.tmp 42) (.tmp 49) 43 rfl w1.heap.size 27 iz _ 3 24 Try.underlying43 hiz hy0 hy1 hy2 rfl (by decide) _ (mzL x y l1).length _ rfl HO5.out ⟨g2, 0, none⟩ (mzL x y l2).length c6 _ rfl (zcl_len _) HCe.out (zcl_one _) (mzL x y (l1 ++ l2)).length (zcl (mzL x y (l1 ++ l2))) (by rw [HLn.out.1, HLn.out.2.1, HLn.out.2.2.1]) HLn.out.2.2.2 (by have h1 := HL1.out; have h2 := HL2.out; rw [HLn.out.2.2.1]; unfold maxLen; omega) (by have h1 := HL1.out; have h2 := HL2.out; rw [HLn.out.2.2.1]; omega) hws5.out.2 ?_); intro v' w7 o7 g7 n7; have HB7 := Lib.hid (below_step hbl5.out (show W.heap.size ≤ w1.heap.size from hws5.out.1) (Nat.le_refl _) HO5.out g7); obtain ⟨g8, c8, rfl⟩ := own_not_nil o7 (fun e => by have := (n7.1 e).1; cases this); have HO7 := Lib.hid o7; clear o7 g7 n7)
    go_ret
    exact HK.out _ _ _ _ _ rfl HO7.out hws5.out.1 HB7.out
  · rw [if_neg hj, List.append_nil] at hlt
    have HK := @Lib.hid _ (fun w' g cc n b => @mzn_mk (mzL x y (ltN x y o (k + 1) c (need + 1))) W w' g cc n b)
    rw [hlt] at HK ⊢
    generalize ltN x y o k c (need + 1) = l1 at *
    by_cases hb1 : bt o k = 1
    · have hwf : wjB x y c k = false := by
        cases h : wjB x y c k with
        | true => exact absurd ⟨hb1, h⟩ hj
        | false => rfl
      rw [decide_eq_true hb1] at HT1
      rw [hwf] at HW1
      clear hlt hj hk hc hkg ho IH h24 hd hwf hb1
      go_enter Try.func123, Try.ntmps123
      go_wp2_with fail
      have h2 := Lib.hid (H2.out 27)
      clear H2
      generalize (W.alloc (.cells #[.int .i64 x, .int .i64 y, .int .i64 o] 27)).alloc (.cells #[.int .i64 x, .int .i64 y, .int .i64 c] 27) = w1 at *
      refine (HI1.out _).mono ?_
      rintro e w2 ⟨g1, c1, rfl, ho1, hb⟩
      have HO1 := Lib.hid ho1
      have hbl := Lib.hid (below_call h2.out.1 hb)
      have hx := Lib.hid (h2.out.2.1.call hb)
      have hy := Lib.hid (h2.out.2.2.1.call hb)
      have hws := Lib.hid (show W.heap.size ≤ w1.heap.size from h2.out.1.size)
      clear hb ho1 h2 HI1
      obtain ⟨x0, x1, x2⟩ := hx.out.1
      obtain ⟨y0, y1, y2⟩ := hy.out.1
      go_wp2_with fail
      refine (HT1.out _).mono ?_
      rintro e w' ⟨rfl, rfl⟩
      go_wp2_with fail
      refine (HW1.out _).mono ?_
      rintro e w3 ⟨rfl, hb⟩
      have HO2 := Lib.hid (own_call HO1.out hb)
      have hbl2 := Lib.hid (below_call hbl.out hb)
      clear hb HO1 hbl hx hy
      go_wp2_with fail
      go_ret
      exact HK.out _ _ _ _ _ rfl HO2.out hws.out hbl2.out
    · rw [decide_eq_false hb1] at HT1
      clear hlt hj hk hc hkg ho IH h24 hd hb1
      go_enter Try.func123, Try.ntmps123
      go_wp2_with fail
      have h2 := Lib.hid (H2.out 27)
      clear H2
      generalize (W.alloc (.cells #[.int .i64 x, .int .i64 y, .int .i64 o] 27)).alloc (.cells #[.int .i64 x, .int .i64 y, .int .i64 c] 27) = w1 at *
      refine (HI1.out _).mono ?_
      rintro e w2 ⟨g1, c1, rfl, ho1, hb⟩
      have HO1 := Lib.hid ho1
      have hbl := Lib.hid (below_call h2.out.1 hb)
      have hx := Lib.hid (h2.out.2.1.call hb)
      have hws := Lib.hid (show W.heap.size ≤ w1.heap.size from h2.out.1.size)
      clear hb ho1 h2 HI1
      obtain ⟨x0, x1, x2⟩ := hx.out.1
      go_wp2_with fail
      refine (HT1.out _).mono ?_
      rintro e w' ⟨rfl, rfl⟩
      go_wp2_with fail
      go_ret
      exact HK.out _ _ _ _ _ rfl HO1.out hws.out hbl.out
theorem l12list_any (x y : Int) (o : Nat) (hk : OkZ x y) (ho : o < 2 ^ gN x y) : ∀ k, k ≤ gN x y → ∀ (c need : Nat) (W : World), c < 2 ^ gN x y → need ≤ 100 →
    Calls Try.prog 123 #[.agg #[.int .i64 x, .int .i64 y, .int .i64 o], .agg #[.int .i64 x, .int .i64 y, .int .i64 c], .int .i64 ((k : Int) - 1), .int .i64 need] W (MzN (mzL x y (ltN x y o k c need)) W)
  | k, hkg, c, 0, W, hc, hn => list_done x y o k c W (by have := gps_bd hk.1 hk.2.1 hk.2.2.1 hk.2.2.2; unfold gN at hkg; omega)
  | 0, hkg, c, need + 1, W, hc, hn => by
    rw [lt_none]
    exact list_none x y o 0 c need W (by omega) (by omega) (by omega)
  | k + 1, hkg, c, need + 1, W, hc, hn => by
    have hg24 : gN x y ≤ 24 := by have := gps_bd hk.1 hk.2.1 hk.2.2.1 hk.2.2.2; unfold gN; omega
    by_cases h : need + 1 > k + 1
    · rw [lt_next, if_pos h]
      exact list_none x y o (k + 1) c need W (by omega) h (by omega)
    · exact list_step x y o k hk ho (by omega) (l12list_any x y o hk ho k (by omega)) c need W hc (by omega) h
end Go.Proofs.Ythgnhamokikhkaa.cntV

/- The contract of the model's ListTrees. -/
namespace Go.Proofs.Ythgnhamokikhkaa.cntW
open Go.ChangeShapes Go.WideShapes Go.ChangeAt Go.RowKit
open draw gridP gridC gridE bitP mazeP mazeQ mazeC mazeM mazeR mazeS intsP reachD intA intK listK forest reachM deadP detP trsP barP trcP cntQ cntL listZ perfP perfM cntV
set_option linter.unusedVariables false

/-- The perfect mazes of a maze, in ascending order; none where there are too many passages. -/
def ltZ (x y z : Int) : List Nat := if OkM x y z ∧ cpZ x y z ≤ 12 then (List.range (2 ^ gN x y)).filter (tcB x y 0 (2 ^ gN x y - 1 - z.toNat)) else []
theorem lt_is {x y : Int} (hk : OkZ x y) {o : Nat} (ho : o < 2 ^ gN x y) : ltN x y o (gN x y) 0 (cN x y - 1) = (List.range (2 ^ gN x y)).filter (tcB x y 0 (2 ^ gN x y - 1 - o)) := by
  have hc := c16 hk
  rw [lt_filter hk o (gN x y) 0 (cN x y - 1) (Nat.le_refl _) (Nat.pow_pos (by decide)) (fun g _ => bt_zero g) (lp_none hk)]
  have e : ((0 + ·) : Nat → Nat) = id := by funext s; simp
  rw [e, List.map_id]
  refine List.filter_congr fun s hs => ?_
  have hs := List.mem_range.1 hs
  unfold lsB tcB
  rw [decide_eq_decide, Nat.zero_add]
  have hcm : ∀ g, g < gN x y → bt (2 ^ gN x y - 1 - o) g = 1 - bt o g := fun g hg => bt_compl ho hg
  constructor
  · rintro ⟨h1, h2, h3⟩
    refine ⟨h3, ?_, fun g hg => ⟨fun h => by rw [bt_zero] at h; omega, fun h => ?_⟩⟩
    · unfold lp at h3; omega
    · rw [hcm g hg] at h
      have := bt_le s g
      have : bt s g ≠ 1 := fun e => by have := h1 g hg e; omega
      omega
  · rintro ⟨h1, h2, h3⟩
    refine ⟨fun g hg hb => ?_, ?_, h1⟩
    · have h4 := (h3 g hg).2
      rw [hcm g hg] at h4
      have := bt_le o g
      apply Classical.byContradiction
      intro hn
      have := h4 (by omega)
      omega
    · unfold lp at h1; omega
theorem ltz_good {x y : Int} (hk : OkZ x y) {o : Nat} (ho : o < 2 ^ gN x y) (h12 : cpZ x y o ≤ 12) : ltN x y o (gN x y) 0 (cN x y - 1) = ltZ x y o := by
  unfold ltZ
  rw [if_pos ⟨okm hk ho, h12⟩, Int.toNat_natCast, lt_is hk ho]

set_option maxHeartbeats 2000000 in
theorem listTrees_any (x y z : Int) (W : World) :
    Calls Try.prog 63 #[.agg #[.int .i64 x, .int .i64 y, .int .i64 z]] W (Mzs (mzL x y (ltZ x y z)) W) := by
  have HO := Lib.hid (fun X => ok_any x y z X)
  have HP := Lib.hid (fun X => countPassages_any x y z X)
  have hpb := cp_bd x y z
  have HB := Lib.hid below_box
  by_cases hv : OkM x y z
  · rw [show okB x y z = true from decide_eq_true hv] at HO
    by_cases h12 : cpZ x y z ≤ 12
    · obtain ⟨hk, o, rfl, ho⟩ := okm_of hv
      have hc := c16 hk
      have hg24 : gN x y ≤ 24 := by have := gps_bd hk.1 hk.2.1 hk.2.2.1 hk.2.2.2; unfold gN; omega
      have HL := Lib.hid (fun X => l12list_any x y o hk ho (gN x y) (Nat.le_refl _) 0 (cN x y - 1) X (Nat.pow_pos (by decide)) (by omega))
      rw [ltz_good hk ho h12, show (((0 : Nat)) : Int) = 0 from rfl] at HL
      have HG : Hid (∀ X, Calls Try.prog 20 #[.agg #[.int .i64 x, .int .i64 y]] X (Nm (gN x y : Int) X)) := fun X => by
        have := gridS.countGaps_yes x y X hk.1 hk.2.1 hk.2.2.1 hk.2.2.2
        have e : gpsZ x y = (gN x y : Int) := by have := gps_bd hk.1 hk.2.1 hk.2.2.1 hk.2.2.2; unfold gN; omega
        unfold gpsZ at e
        rwa [e] at this
      have HC : Hid (∀ X, Calls Try.prog 39 #[.agg #[.int .i64 x, .int .i64 y]] X (Nm (cN x y : Int) X)) := fun X => by
        have := gridS.countCells_yes x y X hk.1 hk.2.1 hk.2.2.1 hk.2.2.2
        have e : x * y = (cN x y : Int) := by have := (mul_bd x y hk.1 hk.2.1 hk.2.2.1 hk.2.2.2).1; unfold cN; omega
        rwa [e] at this
      have hd : decide ((12 : Int) < cpZ x y o) = false := decide_eq_false (by omega)
      have hq1 : IntKind.i64.wrap ((gN x y : Int) - 1) = (gN x y : Int) - 1 := IntWalk.i64_in _ (by omega)
      have hq2 : IntKind.i64.wrap ((cN x y : Int) - 1) = ((cN x y - 1 : Nat) : Int) := by
        rw [show ((cN x y : Int) - 1) = ((cN x y - 1 : Nat) : Int) by omega]; exact IntWalk.i64_in _ (by omega)
      have HK := Lib.hid (fun e w' (w1 : World) (h1 : Below W.heap.size W w1) (h : MzN (mzL x y (ltZ x y o)) w1 e w') => (by obtain ⟨g, c, a, b, d⟩ := h; exact ⟨_, a, own_base b h1.size, below_call h1 d⟩ : Mzs (mzL x y (ltZ x y o)) W e w'))
      clear hc hv hk ho h12 hpb
      generalize gN x y = G at *
      generalize cN x y = N at *
      generalize cpZ x y o = p at *
      generalize mzL x y (ltZ x y o) = l at *
      generalize hm : ((N - 1 : Nat) : Int) = m at *
      clear hm
      go_enter Try.func63, Try.ntmps63
      go_wp2_with fail
      refine (HO.out _).mono ?_
      rintro e w1 ⟨rfl, hb⟩
      have hbl1 := Lib.hid (below_call (HB.out _ _) hb)
      have hxc1 := Lib.hid ((mbox_new x y o W _).call hb)
      clear hb
      obtain ⟨c0, c1, c2⟩ := hxc1.out.1
      go_wp2_with fail
      refine (HP.out _).mono ?_
      rintro e w2 ⟨rfl, hb⟩
      have hbl2 := Lib.hid (below_call hbl1.out hb)
      have hxc2 := Lib.hid (hxc1.out.call hb)
      clear hb hbl1  hxc1 c0 c1 c2
      obtain ⟨c0, c1, c2⟩ := hxc2.out.1
      go_wp2_with fail
      try simp only [List.cons_append, List.nil_append, List.append_eq]
      refine wp_region_held_drew (S := (fun w' => w'.cell? ⟨W.heap.size, 0, none⟩ = some (.int .i64 x) ∧ w'.cell? ⟨W.heap.size, 1, none⟩ = some (.int .i64 y) ∧ w'.cell? ⟨W.heap.size, 2, none⟩ = some (.int .i64 o))) (by kernel_rfl) ?_ (fun hHeld0 => ?_)
      · (try dsimp only); go_keep
      refine wpAnyH_take (i := 0) (oi := { dst := some 12, op := Go.Op.load 27 (Go.Operand.tmp 1), type := 27, pos := "l12_count.go:104", after := #[], guard := none }) (v := ?_) rfl (by kernel_rfl) (by kernel_rfl) (by kernel_rfl) (fun _ _ _ h => h) (Or.inl ⟨by rfl, ?_⟩) (by assumption) ?_
      rotate_left
      · (intro w hSw; (try dsimp only at hSw); go_simp; try with_reducible rfl)
      try simp only [Act.put, List.setIfInBounds_toArray, List.set_cons_zero, List.set_cons_succ]
      refine wpAnyH_take (i := 1) (oi := { dst := some 13, op := Go.Op.fieldAddr 27 (Go.Operand.tmp 1) 0, type := 0, pos := "l12_count.go:104", after := #[], guard := none }) (v := ?_) rfl (by kernel_rfl) (by kernel_rfl) (by kernel_rfl) (fun _ _ _ h => h) (Or.inl ⟨by rfl, ?_⟩) (by assumption) ?_
      rotate_left
      · (intro w hSw; (try dsimp only at hSw); go_simp; try with_reducible rfl)
      try simp only [Act.put, List.setIfInBounds_toArray, List.set_cons_zero, List.set_cons_succ]
      refine wpAnyH_take (i := 2) (oi := { dst := some 14, op := Go.Op.load 25 (Go.Operand.tmp 13), type := 25, pos := "l12_count.go:104", after := #[{ on := 1, ground := Go.Ground.data }], guard := none }) (v := ?_) rfl (by kernel_rfl) (by kernel_rfl) (by kernel_rfl) (fun _ _ _ h => h) (Or.inl ⟨by rfl, ?_⟩) (by assumption) ?_
      rotate_left
      · (intro w hSw; (try dsimp only at hSw); go_simp; try with_reducible rfl)
      try simp only [Act.put, List.setIfInBounds_toArray, List.set_cons_zero, List.set_cons_succ]
      refine wpAnyH_take (i := 3) (oi := { dst := some 15, op := Go.Op.build 27 #[(0, Go.Operand.tmp 14)], type := 27, pos := "l12_count.go:104", after := #[{ on := 2, ground := Go.Ground.data }], guard := none }) (v := ?_) rfl (by kernel_rfl) (by kernel_rfl) (by kernel_rfl) (fun _ _ _ h => h) (Or.inl ⟨by rfl, ?_⟩) (by assumption) ?_
      rotate_left
      · (intro w hSw; (try dsimp only at hSw); go_simp; try with_reducible rfl)
      try simp only [Act.put, List.setIfInBounds_toArray, List.set_cons_zero, List.set_cons_succ]
      refine wpAnyH_take (i := 4) (oi := { dst := some 16, op := Go.Op.fieldAddr 27 (Go.Operand.tmp 1) 0, type := 0, pos := "l12_count.go:104", after := #[], guard := none }) (v := ?_) rfl (by kernel_rfl) (by kernel_rfl) (by kernel_rfl) (fun _ _ _ h => h) (Or.inl ⟨by rfl, ?_⟩) (by assumption) ?_
      rotate_left
      · (intro w hSw; (try dsimp only at hSw); go_simp; try with_reducible rfl)
      try simp only [Act.put, List.setIfInBounds_toArray, List.set_cons_zero, List.set_cons_succ]
      refine wpAnyH_take (i := 5) (oi := { dst := some 17, op := Go.Op.load 25 (Go.Operand.tmp 16), type := 25, pos := "l12_count.go:104", after := #[{ on := 4, ground := Go.Ground.data }], guard := none }) (v := ?_) rfl (by kernel_rfl) (by kernel_rfl) (by kernel_rfl) (fun _ _ _ h => h) (Or.inl ⟨by rfl, ?_⟩) (by assumption) ?_
      rotate_left
      · (intro w hSw; (try dsimp only at hSw); go_simp; try with_reducible rfl)
      try simp only [Act.put, List.setIfInBounds_toArray, List.set_cons_zero, List.set_cons_succ]
      refine wpAnyH_take (i := 8) (oi := { dst := some 20, op := Go.Op.fieldAddr 27 (Go.Operand.tmp 1) 0, type := 0, pos := "l12_count.go:104", after := #[], guard := none }) (v := ?_) rfl (by kernel_rfl) (by kernel_rfl) (by kernel_rfl) (fun _ _ _ h => h) (Or.inl ⟨by rfl, ?_⟩) (by assumption) ?_
      rotate_left
      · (intro w hSw; (try dsimp only at hSw); go_simp; try with_reducible rfl)
      try simp only [Act.put, List.setIfInBounds_toArray, List.set_cons_zero, List.set_cons_succ]
      refine wpAnyH_take (i := 9) (oi := { dst := some 21, op := Go.Op.load 25 (Go.Operand.tmp 20), type := 25, pos := "l12_count.go:104", after := #[{ on := 8, ground := Go.Ground.data }], guard := none }) (v := ?_) rfl (by kernel_rfl) (by kernel_rfl) (by kernel_rfl) (fun _ _ _ h => h) (Or.inl ⟨by rfl, ?_⟩) (by assumption) ?_
      rotate_left
      · (intro w hSw; (try dsimp only at hSw); go_simp; try with_reducible rfl)
      try simp only [Act.put, List.setIfInBounds_toArray, List.set_cons_zero, List.set_cons_succ]
      refine wpAnyH_ready (rs := [6]) (by kernel_rfl) (by simp) ?_
      refine AllReadyH.cons (o := { dst := some 18, op := Go.Op.call { callee := Go.Callee.value (Go.Operand.func 20), args := #[Go.Operand.tmp 17], argTypes := #[25] }, type := 3, pos := "l12_count.go:104", after := #[{ on := 5, ground := Go.Ground.data }], guard := none }) rfl (fun K6 hK6 => ?_) AllReadyH.nil
      go_simp
      (refine (HG _).mono ?_; rintro e v1 ⟨rfl, hb1⟩; have hM1 := Lib.hid (mbox_after hb1 hxc2.out); obtain ⟨p1, q1, r1⟩ := hM1.out.1)
      go_wp2_with fail
      refine hK6.out _ _ ?_ (fun hHeld1 => ?_)
      · (try dsimp only); go_keep
      clear hK6 K6 hHeld0
      try simp only [Act.put, List.setIfInBounds_toArray, List.set_cons_zero, List.set_cons_succ]
      refine wpAnyH_take (i := 7) (oi := { dst := some 19, op := Go.Op.binOp Go.BinOp.sub 3 (Go.Operand.tmp 18) (Go.Operand.const (Go.Value.int Go.IntKind.i64 1)) 3, type := 3, pos := "l12_count.go:104", after := #[{ on := 6, ground := Go.Ground.data }], guard := none }) (v := ?_) rfl (by kernel_rfl) (by kernel_rfl) (by kernel_rfl) (fun _ _ _ h => h) (Or.inl ⟨by rfl, ?_⟩) (by assumption) ?_
      rotate_left
      · (intro w hSw; (try dsimp only at hSw); go_simp; try with_reducible rfl)
      try simp only [Act.put, List.setIfInBounds_toArray, List.set_cons_zero, List.set_cons_succ]
      refine wpAnyH_ready (rs := [10]) (by kernel_rfl) (by simp) ?_
      refine AllReadyH.cons (o := { dst := some 22, op := Go.Op.call { callee := Go.Callee.value (Go.Operand.func 39), args := #[Go.Operand.tmp 21], argTypes := #[25] }, type := 3, pos := "l12_count.go:104", after := #[{ on := 9, ground := Go.Ground.data }, { on := 6, ground := Go.Ground.chain }], guard := none }) rfl (fun K10 hK10 => ?_) AllReadyH.nil
      go_simp
      (refine (HC _).mono ?_; rintro e v2 ⟨rfl, hb2⟩; have hM2 := Lib.hid (mbox_after hb2 hM1.out); obtain ⟨p2, q2, r2⟩ := hM2.out.1)
      go_wp2_with fail
      refine hK10.out _ _ ?_ (fun hHeld2 => ?_)
      · (try dsimp only); go_keep
      clear hK10 K10 hHeld1
      try simp only [Act.put, List.setIfInBounds_toArray, List.set_cons_zero, List.set_cons_succ]
      refine wpAnyH_take (i := 11) (oi := { dst := some 23, op := Go.Op.binOp Go.BinOp.sub 3 (Go.Operand.tmp 22) (Go.Operand.const (Go.Value.int Go.IntKind.i64 1)) 3, type := 3, pos := "l12_count.go:104", after := #[{ on := 10, ground := Go.Ground.data }], guard := none }) (v := ?_) rfl (by kernel_rfl) (by kernel_rfl) (by kernel_rfl) (fun _ _ _ h => h) (Or.inl ⟨by rfl, ?_⟩) (by assumption) ?_
      rotate_left
      · (intro w hSw; (try dsimp only at hSw); go_simp; try with_reducible rfl)
      try simp only [Act.put, List.setIfInBounds_toArray, List.set_cons_zero, List.set_cons_succ]
      refine wpAnyH_ready (rs := [12]) (by kernel_rfl) (by simp) ?_
      refine AllReadyH.cons (o := { dst := some 24, op := Go.Op.call { callee := Go.Callee.value (Go.Operand.func 123), args := #[Go.Operand.tmp 12, Go.Operand.tmp 15, Go.Operand.tmp 19, Go.Operand.tmp 23], argTypes := #[27, 27, 3, 3] }, type := 43, pos := "l12_count.go:104", after := #[{ on := 0, ground := Go.Ground.data }, { on := 3, ground := Go.Ground.data }, { on := 7, ground := Go.Ground.data }, { on := 11, ground := Go.Ground.data }, { on := 10, ground := Go.Ground.chain }], guard := none }) rfl (fun K12 hK12 => ?_) AllReadyH.nil
      go_simp
      (refine (HL.out _).mono ?_; rintro e v3 ⟨g3, c3, rfl, ho3, hb3⟩; have hM3 := Lib.hid (mbox_after hb3 hM2.out); obtain ⟨p3, q3, r3⟩ := hM3.out.1)
      go_wp2_with fail
      refine hK12.out _ _ ?_ (fun hHeld3 => ?_)
      · (try dsimp only); go_keep
      clear hK12 K12 hHeld2
      try simp only [Act.put, List.setIfInBounds_toArray, List.set_cons_zero, List.set_cons_succ]
      refine wpAnyH_take (i := 13) (oi := { dst := some 2, op := Go.Op.assign (Go.Operand.tmp 24), type := 43, pos := "l12_count.go:104", after := #[{ on := 12, ground := Go.Ground.data }, { on := 12, ground := Go.Ground.chain }, { on := 0, ground := Go.Ground.phase }, { on := 1, ground := Go.Ground.phase }, { on := 2, ground := Go.Ground.phase }, { on := 3, ground := Go.Ground.phase }, { on := 4, ground := Go.Ground.phase }, { on := 5, ground := Go.Ground.phase }, { on := 6, ground := Go.Ground.phase }, { on := 7, ground := Go.Ground.phase }, { on := 8, ground := Go.Ground.phase }, { on := 9, ground := Go.Ground.phase }, { on := 10, ground := Go.Ground.phase }, { on := 11, ground := Go.Ground.phase }, { on := 12, ground := Go.Ground.phase }], guard := none }) (v := ?_) rfl (by kernel_rfl) (by kernel_rfl) (by kernel_rfl) (fun _ _ _ h => h) (Or.inl ⟨by rfl, ?_⟩) (by assumption) ?_
      rotate_left
      · (intro w hSw; (try dsimp only at hSw); go_simp; try with_reducible rfl)
      try simp only [Act.put, List.setIfInBounds_toArray, List.set_cons_zero, List.set_cons_succ]
      refine wpAnyH_done (by kernel_rfl) ?_ _
      go_wp2_with fail
      go_ret
      exact HK.out _ _ _ (below_call (below_call (below_dr hbl2.out) hb1) hb2) ⟨g3, c3, rfl, ho3, hb3⟩
    · have he : ltZ x y z = [] := by unfold ltZ; rw [if_neg (fun h => h12 h.2)]
      rw [he]
      have hd : decide ((12 : Int) < cpZ x y z) = true := decide_eq_true (by omega)
      have HK := Lib.hid (fun (w1 : World) (h1 : Below W.heap.size W w1) => (by have h := zl_new h1 h1.size; exact mzs_mk rfl h.2.2.2 h.2.1 h.1 : Mzs (mzL x y []) W (.returned (.slice (some ⟨w1.heap.size, 0, none⟩) 0 0)) (w1.alloc (.cells #[] 27))))
      clear he hv h12 hpb
      generalize cpZ x y z = p at *
      go_enter Try.func63, Try.ntmps63
      go_wp2_with fail
      refine (HO.out _).mono ?_
      rintro e w1 ⟨rfl, hb⟩
      have hbl1 := Lib.hid (below_call (HB.out _ _) hb)
      have hxc1 := Lib.hid ((mbox_new x y z W _).call hb)
      clear hb
      obtain ⟨c0, c1, c2⟩ := hxc1.out.1
      go_wp2_with fail
      refine (HP.out _).mono ?_
      rintro e w2 ⟨rfl, hb⟩
      have hbl2 := Lib.hid (below_call hbl1.out hb)
      have hxc2 := Lib.hid (hxc1.out.call hb)
      clear hb hbl1  hxc1 c0 c1 c2
      obtain ⟨c0, c1, c2⟩ := hxc2.out.1
      go_wp2_with fail
      go_ret
      exact HK.out _ hbl2.out
  · rw [show okB x y z = false from decide_eq_false hv] at HO
    have he : ltZ x y z = [] := by unfold ltZ; rw [if_neg (fun h => hv h.1)]
    rw [he]
    have HK := Lib.hid (fun (w1 : World) (h1 : Below W.heap.size W w1) => (by have h := zl_new h1 h1.size; exact mzs_mk rfl h.2.2.2 h.2.1 h.1 : Mzs (mzL x y []) W (.returned (.slice (some ⟨w1.heap.size, 0, none⟩) 0 0)) (w1.alloc (.cells #[] 27))))
    clear he hv hpb
    go_enter Try.func63, Try.ntmps63
    go_wp2_with fail
    refine (HO.out _).mono ?_
    rintro e w1 ⟨rfl, hb⟩
    have hbl1 := Lib.hid (below_call (HB.out _ _) hb)
    have hxc1 := Lib.hid ((mbox_new x y z W _).call hb)
    clear hb
    obtain ⟨c0, c1, c2⟩ := hxc1.out.1
    go_wp2_with fail
    go_ret
    exact HK.out _ hbl1.out
end Go.Proofs.Ythgnhamokikhkaa.cntW
