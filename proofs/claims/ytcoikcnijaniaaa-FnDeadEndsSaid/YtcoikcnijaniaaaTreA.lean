/- The draw of a tree of passages answers a perfect maze of the grid, and changes the cursor alone. -/
import Derived.Test.YtcoikcnijaniaaaTreP
import Derived.Test.YtcoikcnijaniaaaDrwA
namespace Go.Proofs.Ytcoikcnijaniaaa.treA
open Go.ChangeShapes Go.WideShapes Go.ChangeAt Go.RowKit
open draw gridP gridC gridE bitP mazeP mazeQ mazeC mazeM mazeR mazeE intsP forest treP reachP reachM
set_option linter.unusedVariables false

/-- A draw answers a perfect maze of a grid. -/
def DrawnT (x y : Int) (g : Nat) (w : World) (e : Ending) (w' : World) : Prop := ∃ o : Nat, (o < 2 ^ gN x y ∧ lp x y o = 0 ∧ pt x y o = 1) ∧ e = .returned (.agg #[.int .i64 x, .int .i64 y, .int .i64 o]) ∧ Cur w' g ∧ w.grownBy w' (some g)
theorem drawnT_mk {x y : Int} {o g : Nat} {w w' : World} (hz : o < 2 ^ gN x y ∧ lp x y o = 0 ∧ pt x y o = 1) (hc : Cur w' g) (hg : w.grownBy w' (some g)) : DrawnT x y g w (.returned (.agg #[.int .i64 x, .int .i64 y, .int .i64 o])) w' := ⟨o, hz, rfl, hc, hg⟩
/-- What stands at a step: the cursor; the grid; the maze that is answered; the maze that grows; the cells' labels. -/
def TT (w : World) (g : Nat) (v : Value) (n : Nat) (x y : Int) (o : Nat) (l : List Int) (X : World) : Prop :=
  Cur X g ∧ w.grownBy X (some g) ∧ (Box w.heap.size x y X ∧ Row3 (w.heap.size + 1) 0 0 0 X ∧ Row3 (w.heap.size + 2) x y o X ∧ X.ownsRow (w.heap.size + 3) 3 1 v n (icells l))
theorem TT.below {w X X' : World} {g n o : Nat} {v : Value} {x y : Int} {l : List Int} (h : TT w g v n x y o l X) (hb : Below X.heap.size X X') : TT w g v n x y o l X' := by
  obtain ⟨hc, hg, hx, hr, hm, hl⟩ := h
  exact ⟨hc.kept hb hc.lt, grown_below hg hb, hx.call hb, hr.call hb, hm.call hb, own_call hl hb⟩
theorem TT.draw {w X X' : World} {g n o : Nat} {v : Value} {x y : Int} {l : List Int} (h : TT w g v n x y o l X) (hlt : g < w.heap.size) (hc' : Cur X' g) (hg' : X.grownBy X' (some g)) : TT w g v n x y o l X' := by
  obtain ⟨hc, hg, hx, hr, hm, hl⟩ := h
  refine ⟨hc', only_trans hg hg', box_grown hx hg' (by omega), row3_grown hr hg' (by omega), row3_grown hm hg' (by omega), hl.kept hg' ?_⟩
  rcases hl.2 with ⟨rfl, _⟩ | ⟨q, cap, cur, rfl, hq, _⟩
  · exact .inl rfl
  · exact .inr fun e => by simp [Value.ownBlock] at e; omega
theorem TT.drewN {w X : World} {g n o : Nat} {v : Value} {x y : Int} {l : List Int} (h : TT w g v n x y o l X) (k : Nat) : TT w g v n x y o l (X.drewN k) := h.below ⟨rfl, rfl, rfl, Nat.le_refl _, fun _ _ => rfl⟩
/-- The growing maze gets another number. -/
theorem TT.open {w X : World} {g n o : Nat} {v : Value} {x y : Int} {l : List Int} (h : TT w g v n x y o l X) (hlt : g < w.heap.size) (o' : Nat) {z : Int} (hz : z = (o' : Int)) : TT w g v n x y o' l (X.setCell ⟨w.heap.size + 2, 2, none⟩ (.int .i64 z)) := by
  obtain ⟨hc, hg, hx, hr, hm, hl⟩ := h
  subst hz
  exact ⟨cur_set hc (by simp; omega) _, grown_put hg (by simp) _, box_set hx (by simp) _, row3_set hr (by simp) _, row3_put hm, own_set hl (by simp) _⟩
/-- A cell gets another label. -/
theorem TT.part {w X : World} {g n q c j o : Nat} {x y : Int} {l : List Int} (h : TT w g (.slice (some ⟨q, 0, none⟩) n c) n x y o l X) (hlt : g < w.heap.size) (hq : w.heap.size + 3 ≤ q) (u : Int) : TT w g (.slice (some ⟨q, 0, none⟩) n c) n x y o (l.set j u) (X.setCell ⟨q, j, none⟩ (.int .i64 u)) := by
  obtain ⟨hc, hg, hx, hr, hm, hl⟩ := h
  refine ⟨cur_set hc (by simp; omega) _, grown_put hg (by simp; omega) _, box_set hx (by simp; omega) _, row3_set hr (by simp; omega) _, row3_set hm (by simp; omega) _, ?_⟩
  have h1 := (hl.stored j (.int .i64 u)).1
  have e : (icells l).set j (.int .i64 u) = icells (l.set j u) := by simp [icells, List.map_set]
  rwa [e] at h1
/-- A cell's label can be read and written. -/
theorem TT.cell {w X : World} {g n q c o : Nat} {x y : Int} {l : List Int} (h : TT w g (.slice (some ⟨q, 0, none⟩) n c) n x y o l X) (j : Nat) (hj : j < n) : X.cell? ⟨q, j, none⟩ = some (.int .i64 (l.getD j 0)) ∧ X.frozen? ⟨q, j, none⟩ = false := by
  obtain ⟨_, _, _, _, _, hl⟩ := h
  have hlen : l.length = n := by have := hl.1; rw [icells_length] at this; omega
  refine ⟨(hl.cellAt j (by omega)).trans ?_, hl.frozenAt j⟩
  rw [icells_at l j (by omega), List.getD_eq_getElem?_getD, List.getElem?_eq_getElem (by omega)]; rfl
theorem TT.parts {w X : World} {g n o : Nat} {v : Value} {x y : Int} {l : List Int} (h : TT w g v n x y o l X) :
    (X.cell? ⟨w.heap.size, 0, none⟩ = some (.int .i64 x) ∧ X.cell? ⟨w.heap.size, 1, none⟩ = some (.int .i64 y)) ∧
    ((X.cell? ⟨w.heap.size + 1, 0, none⟩ = some (.int .i64 0) ∧ X.cell? ⟨w.heap.size + 1, 1, none⟩ = some (.int .i64 0) ∧ X.cell? ⟨w.heap.size + 1, 2, none⟩ = some (.int .i64 0)) ∧ X.frozen? ⟨w.heap.size + 1, 0, none⟩ = false ∧ X.frozen? ⟨w.heap.size + 1, 1, none⟩ = false ∧ X.frozen? ⟨w.heap.size + 1, 2, none⟩ = false) ∧
    (X.cell? ⟨w.heap.size + 2, 0, none⟩ = some (.int .i64 x) ∧ X.cell? ⟨w.heap.size + 2, 1, none⟩ = some (.int .i64 y) ∧ X.cell? ⟨w.heap.size + 2, 2, none⟩ = some (.int .i64 o)) ∧ X.frozen? ⟨w.heap.size + 2, 0, none⟩ = false ∧ X.frozen? ⟨w.heap.size + 2, 1, none⟩ = false ∧ X.frozen? ⟨w.heap.size + 2, 2, none⟩ = false := by
  obtain ⟨_, _, hx, hr, hm, _⟩ := h
  exact ⟨hx.1, row3_cells hr, row3_cells hm⟩
theorem TT.cur {w X : World} {g n o : Nat} {v : Value} {x y : Int} {l : List Int} (h : TT w g v n x y o l X) : Cur X g := h.1
theorem TT.len {w X : World} {g n o : Nat} {v : Value} {x y : Int} {l : List Int} (h : TT w g v n x y o l X) : l.length = n := by have := h.2.2.2.2.2.1; rw [icells_length] at this; omega
/-- At the start. -/
theorem tt_start {w : World} {g : Nat} {x y : Int} (hc : Cur w g) (T T' T'' : TypeId) :
    TT w g (.slice none 0 0) 0 x y 0 [] (((w.alloc (.cells #[.int .i64 x, .int .i64 y] T)).alloc (.cells #[.int .i64 0, .int .i64 0, .int .i64 0] T')).alloc (.cells #[.int .i64 x, .int .i64 y, .int .i64 0] T'')) := by
  refine ⟨((hc.alloc1 _).alloc1 _).alloc1 _, only_alloc1 (only_alloc1 (only_alloc1 (World.grownBy.refl w _) _) _) _, ?_, ?_, ?_, World.ownsRow_nil _ _ _ _⟩
  · exact ((box_new x y w T).call (below_box _ _)).call (below_box _ _)
  · have := Row3.call (row3_new 0 0 0 (w.alloc (.cells #[.int .i64 x, .int .i64 y] T)) T') (below_box _ (.cells #[.int .i64 x, .int .i64 y, .int .i64 0] T''))
    simpa using this
  · have := row3_new x y 0 ((w.alloc (.cells #[.int .i64 x, .int .i64 y] T)).alloc (.cells #[.int .i64 0, .int .i64 0, .int .i64 0] T')) T''
    simpa using this
/-- The cells' labels are made. -/
theorem TT.make {w X : World} {g n o : Nat} {x y : Int} (h : TT w g (.slice none 0 0) 0 x y o [] X) (hm : n ≤ maxLen) (hs : w.heap.size + 3 ≤ X.heap.size) : TT w g (.slice (some ⟨X.heap.size, 0, none⟩) n n) n x y o (List.replicate n 0) (X.alloc (.cells (madeCells (Value.int .i64 0).cells n) 3)) := by
  obtain ⟨hc, hg, hx, hr, hm', _⟩ := h
  refine ⟨hc.alloc1 _, only_alloc1 hg _, hx.call (below_box _ _), hr.call (below_box _ _), hm'.call (below_box _ _), ?_⟩
  have := World.ownsRow_lit (base := w.heap.size + 3) (e := 3) (size := 1) X (madeCells (Value.int .i64 0).cells n) n hs hm (by rw [size_madeCells]; omega)
  rwa [made_ints] at this
theorem TT.size {w X : World} {g n o : Nat} {v : Value} {x y : Int} {l : List Int} (h : TT w g v n x y o l X) : w.heap.size + 3 ≤ X.heap.size := by
  have := row3_lt h.2.2.2.2.1
  omega
theorem tt_end {w X Y : World} {g n o : Nat} {v : Value} {x y : Int} {l : List Int} (h : TT w g v n x y o l X) (hlt : g < w.heap.size) (hz : o < 2 ^ gN x y ∧ lp x y o = 0 ∧ pt x y o = 1)
    (hY : Y = ((X.setCell ⟨w.heap.size + 1, 0, none⟩ (.int .i64 x)).setCell ⟨w.heap.size + 1, 1, none⟩ (.int .i64 y)).setCell ⟨w.heap.size + 1, 2, none⟩ (.int .i64 o)) :
    DrawnT x y g w (.returned (.agg #[.int .i64 x, .int .i64 y, .int .i64 o])) Y := by
  subst hY
  exact drawnT_mk hz (cur_set (cur_set (cur_set h.1 (by simp; omega) _) (by simp; omega) _) (by simp; omega) _) (grown_put (grown_put (grown_put h.2.1 (by simp) _) (by simp) _) (by simp) _)
theorem getD_set {l : List Int} {j i : Nat} {u : Int} (hj : j < l.length) : (l.set j u).getD i 0 = if j = i then u else l.getD i 0 := by
  rw [List.getD_eq_getElem?_getD, List.getD_eq_getElem?_getD, List.getElem?_set]
  split
  · rename_i h; subst h; simp
  · rfl
theorem ext_getD {l l' : List Int} (hl : l.length = l'.length) (h : ∀ i, i < l.length → l.getD i 0 = l'.getD i 0) : l = l' := by
  apply List.ext_getElem hl
  intro i h1 h2
  have := h i h1
  rw [List.getD_eq_getElem?_getD, List.getD_eq_getElem?_getD, List.getElem?_eq_getElem h1, List.getElem?_eq_getElem h2] at this
  simpa using this
/-- While labels are laid. -/
def LB (N k : Nat) (l : List Int) : Prop := l.length = N ∧ ∀ j, j < k → l.getD j 0 = (j : Int)
theorem lb_step {N k : Nat} {l : List Int} (h : LB N k l) (hk : k < N) : LB N (k + 1) (l.set k (k : Int)) := by
  refine ⟨by simpa using h.1, fun j hj => ?_⟩
  rw [getD_set (by rw [h.1]; exact hk)]
  split
  · rename_i e; rw [e]
  · exact h.2 j (by omega)
theorem lb_end {N : Nat} {l : List Int} (h : LB N N l) : l = (List.range N).map fun k : Nat => (k : Int) :=
  ext_getD (by simpa using h.1) fun i hi => by rw [h.2 i (by rw [← h.1]; exact hi), range_getD (by rw [← h.1]; exact hi)]
/-- While one label takes another's place. -/
def RL (N j : Nat) (p q : Int) (l l' : List Int) : Prop := l.length = N ∧ l'.length = N ∧ (∀ i, i < j → l'.getD i 0 = relab p q (l.getD i 0)) ∧ ∀ i, j ≤ i → l'.getD i 0 = l.getD i 0
theorem rl_hit {N j : Nat} {p q : Int} {l l' : List Int} (h : RL N j p q l l') (hj : j < N) (e : l'.getD j 0 = q) : RL N (j + 1) p q l (l'.set j p) := by
  refine ⟨h.1, by simpa using h.2.1, fun i hi => ?_, fun i hi => ?_⟩
  · rw [getD_set (by rw [h.2.1]; exact hj)]
    split
    · rename_i e'; subst e'; rw [h.2.2.2 j (Nat.le_refl _)] at e; unfold relab; rw [if_pos e]
    · exact h.2.2.1 i (by omega)
  · rw [getD_set (by rw [h.2.1]; exact hj), if_neg (by omega)]; exact h.2.2.2 i (by omega)
theorem rl_miss {N j : Nat} {p q : Int} {l l' : List Int} (h : RL N j p q l l') (e : l'.getD j 0 ≠ q) : RL N (j + 1) p q l l' := by
  refine ⟨h.1, h.2.1, fun i hi => ?_, fun i hi => h.2.2.2 i (by omega)⟩
  rcases Nat.lt_or_ge i j with h' | h'
  · exact h.2.2.1 i h'
  · obtain rfl : i = j := by omega
    have := h.2.2.2 i (Nat.le_refl _)
    rw [this] at e ⊢
    unfold relab; rw [if_neg e]
theorem rl_end {N : Nat} {p q : Int} {l l' : List Int} (h : RL N N p q l l') : l' = l.map (relab p q) :=
  ext_getD (by rw [h.2.1, List.length_map, h.1]) fun i hi => by rw [h.2.2.1 i (by rw [← h.2.1]; exact hi), getD_map (by rw [h.1, ← h.2.1]; exact hi)]
theorem rl_at {N j A : Nat} {p q : Int} {l l' : List Int} (h : RL N j p q l l') (hA : l.getD A 0 = p) (hpq : p ≠ q) : l'.getD A 0 = p := by
  rcases Nat.lt_or_ge A j with h' | h'
  · rw [h.2.2.1 A h', hA]; unfold relab; rw [if_neg hpq]
  · rw [h.2.2.2 A h', hA]

set_option maxRecDepth 100000 in
set_option maxHeartbeats 4000000 in
theorem treeT_any (g : Nat) (x y : Int) (w : World) (hc : Cur w g) (h1 : 1 ≤ x) (h2 : x ≤ 4) (h3 : 1 ≤ y) (h4 : y ≤ 4) :
    Calls Try.prog 75 #[.pointer (some ⟨g, 0, none⟩), .agg #[.int .i64 x, .int .i64 y]] w (DrawnT x y g w) := by
  obtain ⟨i0, hi0, hz0, hz1, hz2⟩ := info_parts info_int
  have hlt := hc.lt
  obtain ⟨q0, q1⟩ := gps_bd h1 h2 h3 h4
  obtain ⟨⟨n0, n1⟩, -, -⟩ := mul_bd x y h1 h2 h3 h4
  have htop := top_bd h1 h2 h3 h4
  have HG : Hid (∀ X, Calls Try.prog 97 #[.agg #[.int .i64 x, .int .i64 y]] X (Nm (gpsZ x y) X)) := fun X => gridS.countGaps_yes x y X h1 h2 h3 h4
  have HC : Hid (∀ X, Calls Try.prog 11 #[.agg #[.int .i64 x, .int .i64 y]] X (Nm (x * y) X)) := fun X => gridS.countCells_yes x y X h1 h2 h3 h4
  have HE := Lib.hid (fun t X => gridS.endsOf_any x y t X)
  have HD := @Lib.hid _ (fun X Y n v o l a b c => @tt_end w X Y g n o v x y l a hlt b c)
  have hk : OkZ x y := ⟨h1, h2, h3, h4⟩
  have T0 := @Lib.hid _ (fun T T' T'' => @tt_start w g x y hc T T' T'')
  obtain ⟨G, hG⟩ := Int.eq_ofNat_of_zero_le q0
  obtain ⟨N, hN⟩ := Int.eq_ofNat_of_zero_le (show 0 ≤ x * y by omega)
  have HGN : Hid (gN x y = G) := Lib.hid (by unfold gN; omega)
  have HNN : Hid (cN x y = N) := Lib.hid (by unfold cN; omega)
  rw [hG] at HG q1
  rw [hN] at HC n0 n1
  have hG24 : G ≤ 24 := by omega
  have hN16 : N ≤ 16 := by omega
  have hN1 : 1 ≤ N := by omega
  have HTN := Lib.hid (fun h : gN x y = 0 => tree_none hk h)
  have HTO := Lib.hid (fun o s f h1 h2 h3 h4 h5 h6 => @tree_one x y o G s f hk HGN.out h1 h2 h3 h4 h5 h6)
  have HUS := Lib.hid (uf_start hk)
  have HUJ := Lib.hid (fun o g l h1 h2 h3 h4 => @uf_join x y o g l hk h1 h2 h3 h4)
  have HEL := Lib.hid (fun g h => @ends_lt x y g hk h)
  have HLN := Lib.hid (lp_none hk)
  rw [HNN.out] at HUS HEL
  clear hG hN q0 q1 n0 n1 htop hk
  go_enter Try.func75, Try.ntmps75
  go_wp2_with fail
  refine (HG.out _).mono ?_
  rintro e w1 ⟨rfl, hb⟩
  have ts1 := Lib.hid ((T0.out _ _ _).below hb)
  clear hb T0
  obtain ⟨⟨c0, c1⟩, -⟩ := ts1.out.parts
  go_wp2_with fail
  refine (HC.out _).mono ?_
  rintro e w2 ⟨rfl, hb⟩
  have ts2 := Lib.hid (ts1.out.below hb)
  have hs2 := ts2.out.size
  have ts3 := Lib.hid (ts2.out.make (n := N) (by unfold maxLen; omega) hs2)
  have hmk := run_make (P := Try.prog) w2 32 3 i0 (.int .i64 0) Try.underlying32 hi0 hz0 .i64 .i64 (N : Int) (N : Int) (by omega) (by omega) (by rw [hz2]; omega) (by omega)
  rw [hz1] at hmk
  simp only [Int.toNat_natCast, Nat.mul_one] at hmk
  clear hb ts1 ts2 c0 c1
  go_wp2_with fail
  clear hmk
  go_loopw [8] (fun u8 wr => ∃ (k : Nat) (l : List Int), k ≤ N ∧ u8 = .int .i64 k ∧ LB N k l ∧ TT w g (.slice (some ⟨w2.heap.size, 0, none⟩) N N) N x y 0 l wr) (fun u8 _ => N - (intOf u8).toNat)
  case atStart => exact ⟨0, _, Nat.zero_le _, rfl, ⟨by simp, fun j hj => absurd hj (by omega)⟩, ts3.out⟩
  case round =>
    obtain ⟨k, l, hk, rfl, hlb0, hts0⟩ := hrel
    have hts := Lib.hid hts0
    have hlb := Lib.hid hlb0
    clear hts0 ts3 hlb0
    by_cases hkN : k < N
    · obtain ⟨cu, fu⟩ := hts.out.cell k hkN
      have HN := Lib.hid (hts.out.part (j := k) hlt hs2 k)
      have HL := Lib.hid (lb_step hlb.out hkN)
      generalize l.getD k 0 = u at *
      have hk0 : (0 : Int) ≤ (k : Int) := Int.natCast_nonneg _
      have hk1 : (k : Int) < (N : Int) := by omega
      go_wp2_with fail
      go_roundw
      case rel => exact ⟨k + 1, _, by omega, by go_num, HL.out, HN.out⟩
      case measure => simp [intOf]; omega
    · obtain rfl : k = N := by omega
      have hl := lb_end hlb.out
      rw [hl] at hts
      clear hl hlb l
      by_cases hG0 : G = 0
      · subst hG0
        obtain ⟨-, ⟨⟨b0, b1, b2⟩, fb0, fb1, fb2⟩, ⟨d0, d1, d2⟩, fd0, fd1, fd2⟩ := hts.out.parts
        have HZ : Hid (0 < 2 ^ gN x y ∧ lp x y 0 = 0 ∧ pt x y 0 = 1) := ⟨Nat.pow_pos (by decide), HLN.out, HTN.out HGN.out⟩
        go_wp2_with fail
        refine ret_set3 b0 b1 b2 fun Y e0 e1 e2 hY => ?_
        exact bodyPost_ret (v := .agg #[.int .i64 x, .int .i64 y, .int .i64 ((0 : Nat) : Int)]) (by simp [results, Try.results75, go_sem, e0, e1, e2]) rfl (HD.out _ _ _ _ _ _ hts.out HZ.out hY)
      · have hG1 : 1 ≤ G := by omega
        have hGz : ((G : Int) == 0) = false := by simp; omega
        clear hG0
        go_wp2_with fail
        refine (below_any g _ _ hts.out.cur (by omega) (by omega)).mono ?_
        rintro e w3 ⟨f, hf, rfl, hc3, hg3⟩
        have ts4 := Lib.hid (hts.out.draw hlt hc3 hg3)
        clear hts hc3 hg3
        go_wp2_with fail
        refine (below_any g _ _ ts4.out.cur (by omega) (by omega)).mono ?_
        rintro e w4 ⟨st, hst, rfl, hc4, hg4⟩
        have ts5 := Lib.hid (ts4.out.draw hlt hc4 hg4)
        clear ts4 hc4 hg4
        go_wp2_with fail
        go_loopw [10] (fun u10 wr => ∃ s : Nat, (1 ≤ s ∧ s ≤ G + 1) ∧ u10 = .int .i64 s ∧ TT w g (.slice (some ⟨w2.heap.size, 0, none⟩) k k) k x y 0 ((List.range k).map fun k : Nat => (k : Int)) wr) (fun u10 _ => G + 1 - (intOf u10).toNat)
        case atStart => exact ⟨1 + st, by omega, by rw [show ((1 + st : Nat) : Int) = 1 + (st : Int) from by omega], ts5.out⟩
        case round =>
          obtain ⟨s, hs, rfl, hts0⟩ := hrel
          have hts := Lib.hid hts0
          have HCm := Lib.hid (fun X => common_any s G X (by omega) (by omega))
          clear hts0 ts5
          by_cases hcm : cmB s G = true
          · have hs' : s ≠ G + 1 := by
              rintro rfl
              rw [common_last] at hcm
              cases hcm
            unfold CmPost at HCm
            rw [hcm] at HCm
            clear hcm
            go_wp2_with fail
            refine (HCm.out _).mono ?_
            rintro e w5 ⟨rfl, d, rfl⟩
            go_wp2_with fail
            go_roundw
            case rel => exact ⟨s + 1, by omega, by go_num, hts.out.drewN d⟩
            case measure => simp [intOf]; omega
          · have hcm' : cmB s G = false := by simpa using hcm
            unfold CmPost at HCm
            rw [hcm'] at HCm
            have HGc : Hid (Nat.gcd s G = 1) := Lib.hid (by
              have h1 := of_decide_eq_false hcm'
              have h2 : 0 < Nat.gcd s G := Nat.gcd_pos_of_pos_left _ (by omega)
              omega)
            clear hcm hcm'
            go_wp2_with fail
            refine (HCm.out _).mono ?_
            rintro e w5 ⟨rfl, d, rfl⟩
            go_wp2_with fail
            have ts6 := Lib.hid (hts.out.drewN d)
            clear hts HCm
            go_loopw [11] (fun u11 wr => ∃ (i o : Nat) (l : List Int), i ≤ G ∧ u11 = .int .i64 i ∧ (o < 2 ^ gN x y ∧ lp x y o = 0 ∧ UF x y o l ∧ ∀ j, j < i → Cn x y o (aN x y ((f + j * s) % G)) (bN x y ((f + j * s) % G))) ∧ TT w g (.slice (some ⟨w2.heap.size, 0, none⟩) k k) k x y o l wr) (fun u11 _ => G - (intOf u11).toNat)
            case atStart => exact ⟨0, 0, _, Nat.zero_le _, rfl, ⟨Nat.pow_pos (by decide), HLN.out, HUS.out, fun j hj => absurd hj (by omega)⟩, ts6.out⟩
            case round =>
              obtain ⟨i, o, l, hi, rfl, hinv0, hts0⟩ := hrel
              have hts := Lib.hid hts0
              have hinv := Lib.hid hinv0
              clear hts0 ts6 hinv0
              by_cases hiG : i < G
              · have hm0 : i * s ≤ 24 * 25 := Nat.mul_le_mul (by omega) (by omega)
                obtain ⟨m, hm⟩ : ∃ m : Nat, (i : Int) * (s : Int) = m := ⟨i * s, by simp⟩
                have hm1 : m ≤ 600 := by
                  have : ((i * s : Nat) : Int) = m := by simpa using hm
                  omega
                obtain ⟨t, ht⟩ : ∃ t : Int, ((f : Int) + (m : Int)) % (G : Int) = t := ⟨_, rfl⟩
                have t0 : 0 ≤ t := by rw [← ht]; exact Int.emod_nonneg _ (by omega)
                have t1 : t < G := by rw [← ht]; exact Int.emod_lt_of_pos _ (by omega)
                obtain ⟨T, rfl⟩ := Int.eq_ofNat_of_zero_le t0
                have hTG : T < gN x y := by rw [HGN.out]; omega
                have HTT : Hid ((f + i * s) % G = T) := Lib.hid (by
                  have h1 : ((i * s : Nat) : Int) = m := by simpa using hm
                  have h2 : i * s = m := by omega
                  rw [h2]
                  have h3 : (((f + m) % G : Nat) : Int) = (T : Int) := by rw [Int.natCast_emod, Int.natCast_add]; exact ht
                  exact Int.ofNat.inj h3)
                obtain ⟨ee1, ee2, ee3, ee4⟩ := HEL.out T hTG
                have HEt := Lib.hid (HE.out T)
                rw [ee3, ee4] at HEt
                have HTG := Lib.hid hTG
                have HJn := Lib.hid (fun h => HUJ.out o T l hinv.out.1 hTG hinv.out.2.2.1 h)
                have HUv := Lib.hid (hinv.out.2.2.1.2 (aN x y T) (bN x y T) (by rw [HNN.out]; omega) (by rw [HNN.out]; omega))
                generalize hA : aN x y T = A at *
                generalize hB : bN x y T = B at *
                have hAk : A < k := by omega
                have hBk : B < k := by omega
                clear ee1 ee2 ee3 ee4 hm0 hTG
                obtain ⟨⟨c0, c1⟩, -⟩ := hts.out.parts
                go_wp2_with fail
                refine (HEt.out _).mono ?_
                rintro e w6 ⟨rfl, hb⟩
                have ts7 := Lib.hid (hts.out.below hb)
                clear hb hts c0 c1 hm HEt
                obtain ⟨ca, fa⟩ := ts7.out.cell A hAk
                obtain ⟨cb, fb⟩ := ts7.out.cell B hBk
                have hll := ts7.out.len
                generalize hua : l.getD A 0 = ua at *
                generalize hub : l.getD B 0 = ub at *
                have iA0 : (0 : Int) ≤ (A : Int) := Int.natCast_nonneg _
                have iA1 : (A : Int) < (k : Int) := by omega
                have iB0 : (0 : Int) ≤ (B : Int) := Int.natCast_nonneg _
                have iB1 : (B : Int) < (k : Int) := by omega
                by_cases hab : ua = ub
                · have hab' : (ua == ub) = true := by simpa using hab
                  have HN : Hid (∀ j, j < i + 1 → Cn x y o (aN x y ((f + j * s) % G)) (bN x y ((f + j * s) % G))) := fun j hj => by
                    rcases Nat.lt_or_ge j i with h | h
                    · exact hinv.out.2.2.2 j h
                    · obtain rfl : j = i := by omega
                      rw [HTT.out, hA, hB]; exact HUv.out.1 hab
                  clear hab
                  go_wp2_with fail
                  go_quiet (fail)
                  go_wp2_with fail
                  go_roundw
                  case rel => exact ⟨i + 1, o, l, by omega, by go_num, ⟨hinv.out.1, hinv.out.2.1, hinv.out.2.2.1, HN.out⟩, ts7.out.drewN _⟩
                  case measure => simp [intOf]; omega
                · have hab' : (ua == ub) = false := by simpa using hab
                  obtain ⟨j1, j2, j3, j4, j5, j6⟩ := HJn.out (fun h => hab (HUv.out.2 h))
                  have HN : Hid (∀ j, j < i + 1 → Cn x y (o + 2 ^ T) (aN x y ((f + j * s) % G)) (bN x y ((f + j * s) % G))) := fun j hj => by
                    rcases Nat.lt_or_ge j i with h | h
                    · exact j5 _ _ (hinv.out.2.2.2 j h)
                    · obtain rfl : j = i := by omega
                      rw [HTT.out, hA, hB]; exact j6
                  have HI2 : Hid (o + 2 ^ T < 2 ^ gN x y ∧ lp x y (o + 2 ^ T) = 0 ∧ UF x y (o + 2 ^ T) (l.map (relab ua ub))) := ⟨j2, by rw [j4]; exact hinv.out.2.1, j3⟩
                  have hoz : Hid (bits .or .i64 (o : Int) (wrap64 (2 ^ (T : Int).toNat)) = ((o + 2 ^ T : Nat) : Int)) := Lib.hid (by
                    have hb := pow_bd (T : Int) (by omega)
                    have ho24 : (o : Int) < 16777216 := by
                      have h1 : o < 2 ^ gN x y := hinv.out.1
                      have h2 : 2 ^ gN x y ≤ 2 ^ 24 := Nat.pow_le_pow_right (by decide) (by rw [HGN.out]; exact hG24)
                      have h3 : (2 : Nat) ^ 24 = 16777216 := by decide
                      omega
                    rw [IntWalk.wrap64_in _ (by omega), or_is (by omega) ho24 (by omega) (by omega), if_neg (by rw [bitZ_bt (by omega) (by omega), Int.toNat_natCast, Int.toNat_natCast, j1]; decide)]
                    simp)
                  have HAB := Lib.hid (show ua ≠ ub from hab)
                  clear hab j1 j2 j3 j4 j5 j6 HJn HUv
                  obtain ⟨-, -, ⟨d0, d1, d2⟩, fd0, fd1, fd2⟩ := ts7.out.parts
                  have HO := @Lib.hid _ (fun X (h : TT w g (.slice (some ⟨w2.heap.size, 0, none⟩) k k) k x y o l X) => h.open hlt (o + 2 ^ T) hoz.out)
                  generalize hO2 : o + 2 ^ T = o2 at *
                  go_wp2_with fail
                  go_quiet (fail)
                  go_wp2_with fail
                  clear ht
                  go_region
                  go_wp2_with fail
                  go_loopw [16] (fun u16 wr => ∃ (j : Nat) (l' : List Int), j ≤ k ∧ u16 = .int .i64 j ∧ RL k j ua ub l l' ∧ TT w g (.slice (some ⟨w2.heap.size, 0, none⟩) k k) k x y o2 l' wr) (fun u16 _ => k - (intOf u16).toNat)
                  case atStart => exact ⟨0, l, Nat.zero_le _, rfl, ⟨hll, hll, fun i hi => absurd hi (by omega), fun _ _ => rfl⟩, HO.out _ ((ts7.out.drewN _).drewN 1)⟩
                  case round =>
                    obtain ⟨j, l', hj, rfl, hrl0, hts0⟩ := hrel
                    have hts := Lib.hid hts0
                    have hrl := Lib.hid hrl0
                    clear hts0 hrl0 ts7 ca fa cb fb d0 d1 d2 fd0 fd1 fd2
                    by_cases hjk : j < k
                    · obtain ⟨cj, fj⟩ := hts.out.cell j hjk
                      obtain ⟨cva, fva⟩ := hts.out.cell A hAk
                      rw [rl_at hrl.out hua HAB.out] at cva
                      have iJ0 : (0 : Int) ≤ (j : Int) := Int.natCast_nonneg _
                      have iJ1 : (j : Int) < (k : Int) := by omega
                      have HN3 := Lib.hid (hts.out.part (j := j) hlt hs2 ua)
                      have HR1 := Lib.hid (fun h => rl_hit hrl.out hjk h)
                      have HR2 := Lib.hid (fun h => rl_miss hrl.out h)
                      generalize l'.getD j 0 = uj at *
                      by_cases hjb : uj = ub
                      · have hjb' : (uj == ub) = true := by simpa using hjb
                        have HR3 := Lib.hid (HR1.out hjb)
                        clear hjb HR1 HR2
                        go_wp2_with fail
                        go_roundw
                        case rel => exact ⟨j + 1, _, by omega, by go_num, HR3.out, HN3.out⟩
                        case measure => simp [intOf]; omega
                      · have hjb' : (uj == ub) = false := by simpa using hjb
                        have HR3 := Lib.hid (HR2.out hjb)
                        clear hjb HR1 HR2
                        go_wp2_with fail
                        go_roundw
                        case rel => exact ⟨j + 1, _, by omega, by go_num, HR3.out, hts.out⟩
                        case measure => simp [intOf]; omega
                    · obtain rfl : j = k := by omega
                      have hl' := rl_end hrl.out
                      rw [hl'] at hts
                      clear hl' hrl
                      go_wp2_with fail
                      go_roundw
                      case rel => exact ⟨i + 1, o2, _, by omega, by go_num, ⟨HI2.out.1, HI2.out.2.1, HI2.out.2.2, HN.out⟩, hts.out⟩
                      case measure => simp [intOf]; omega
              · obtain rfl : i = G := by omega
                obtain ⟨-, ⟨⟨b0, b1, b2⟩, fb0, fb1, fb2⟩, ⟨d0, d1, d2⟩, fd0, fd1, fd2⟩ := hts.out.parts
                have HZ : Hid (o < 2 ^ gN x y ∧ lp x y o = 0 ∧ pt x y o = 1) := ⟨hinv.out.1, hinv.out.2.1, HTO.out o s f (by omega) hG24 (by omega) HGc.out (by omega) hinv.out.2.2.2⟩
                clear hinv
                go_wp2_with fail
                refine ret_set3 b0 b1 b2 fun Y e0 e1 e2 hY => ?_
                exact bodyPost_ret (v := .agg #[.int .i64 x, .int .i64 y, .int .i64 o]) (by simp [results, Try.results75, go_sem, e0, e1, e2]) rfl (HD.out _ _ _ _ _ _ hts.out HZ.out hY)
end Go.Proofs.Ytcoikcnijaniaaa.treA

/- The draw of a perfect maze. -/
namespace Go.Proofs.Ytcoikcnijaniaaa.treA
open Go.ChangeShapes Go.WideShapes Go.ChangeAt Go.RowKit
open draw gridP gridC gridE bitP mazeP mazeQ mazeC mazeM mazeR mazeE intsP forest treP reachP reachM
set_option linter.unusedVariables false

/-- A perfect maze is drawn with the cursor. -/
def DrawnP (g : Nat) (w : World) (e : Ending) (w' : World) : Prop := ∃ (x y : Int) (o : Nat), OkZ x y ∧ (o < 2 ^ gN x y ∧ lp x y o = 0 ∧ pt x y o = 1) ∧ e = .returned (.agg #[.int .i64 x, .int .i64 y, .int .i64 o]) ∧ Cur w' g ∧ w.grownBy w' (some g)
theorem drawnP_mk {w X Y : World} {g : Nat} {x y : Int} {o : Nat} (hlt : g < w.heap.size) (hk : OkZ x y) (hz : o < 2 ^ gN x y ∧ lp x y o = 0 ∧ pt x y o = 1) (hc : Cur X g) (hg : w.grownBy X (some g))
    (hY : Y = ((X.setCell ⟨w.heap.size, 0, none⟩ (.int .i64 x)).setCell ⟨w.heap.size, 1, none⟩ (.int .i64 y)).setCell ⟨w.heap.size, 2, none⟩ (.int .i64 o)) : DrawnP g w (.returned (.agg #[.int .i64 x, .int .i64 y, .int .i64 o])) Y := by
  subst hY
  exact ⟨x, y, o, hk, hz, rfl, cur_set (cur_set (cur_set hc (by simp; omega) _) (by simp; omega) _) (by simp; omega) _, grown_put (grown_put (grown_put hg (by simp) _) (by simp) _) (by simp) _⟩
theorem tree5_any (g : Nat) (w : World) (hc : Cur w g) :
    Calls Try.prog 38 #[.pointer (some ⟨g, 0, none⟩)] w (DrawnP g w) := by
  have hlt := hc.lt
  have HD := @Lib.hid _ (fun X Y x y o a b c d e => @drawnP_mk w X Y g x y o hlt a b c d e)
  go_enter Try.func38, Try.ntmps38
  go_wp2_with fail
  refine (grid_any g _ (hc.alloc1 _)).mono ?_
  rintro e w1 ⟨x, y, hxy0, rfl, hc1, hg1⟩
  obtain ⟨h1, h2, h3, h4⟩ := hxy0
  have HR1 := Lib.hid (zero_cells hg1 hlt)
  have hz1 := row3_lt HR1.out
  have HG1 := Lib.hid (only_trans (only_alloc1 (World.grownBy.refl w (some g)) _) hg1)
  clear hg1
  go_wp2_with fail
  refine (treeT_any g x y _ (hc1.alloc1 _) h1 h2 h3 h4).mono ?_
  rintro e w2 ⟨o, hz, rfl, hc2, hg2⟩
  have HZ := Lib.hid hz
  have HR2 := Lib.hid (row3_grown (HR1.out.call (below_box _ _)) hg2 (by omega))
  have HG2 := Lib.hid (only_trans (only_alloc1 HG1.out _) hg2)
  have HC2 := Lib.hid hc2
  obtain ⟨⟨c0, c1, c2⟩, f0, f1, f2⟩ := row3_cells HR2.out
  have HK : Hid (OkZ x y) := Lib.hid ⟨h1, h2, h3, h4⟩
  clear hg2 hc1 HG1 HR1 hz hc2 h1 h2 h3 h4
  go_wp2_with fail
  refine ret_set3 c0 c1 c2 fun Y e0 e1 e2 hY => ?_
  exact bodyPost_ret (v := .agg #[.int .i64 x, .int .i64 y, .int .i64 o]) (by simp [results, Try.results38, go_sem, e0, e1, e2]) rfl (HD.out _ _ _ _ _ HK.out HZ.out HC2.out HG2.out hY)

/-- A perfect maze is drawn from a code. -/
def PerfDrawn (w : World) (e : Ending) (w' : World) : Prop := ∃ (x y : Int) (o : Nat), OkZ x y ∧ (o < 2 ^ gN x y ∧ lp x y o = 0 ∧ pt x y o = 1) ∧ e = .returned (.agg #[.int .i64 x, .int .i64 y, .int .i64 o]) ∧ Below w.heap.size w w'
theorem perfDrawn_mk {w X Y : World} {x y : Int} {o : Nat} (hk : OkZ x y) (hz : o < 2 ^ gN x y ∧ lp x y o = 0 ∧ pt x y o = 1) (hb : Below w.heap.size w X)
    (hY : Y = ((X.setCell ⟨w.heap.size, 0, none⟩ (.int .i64 x)).setCell ⟨w.heap.size, 1, none⟩ (.int .i64 y)).setCell ⟨w.heap.size, 2, none⟩ (.int .i64 o)) : PerfDrawn w (.returned (.agg #[.int .i64 x, .int .i64 y, .int .i64 o])) Y := by
  subst hY
  exact ⟨x, y, o, hk, hz, rfl, ((hb.setCell (Nat.le_refl _) _).setCell (Nat.le_refl _) _).setCell (Nat.le_refl _) _⟩
theorem drawPerfect_any (A : Option Addr) (n c : Nat) (w : World) (hn : n ≤ maxLen) (hb : BytesIn w w.heap.size A n) :
    Calls Try.prog 10 #[.slice A n c] w (PerfDrawn w) := by
  have HK := @Lib.hid _ (fun X Y x y o a b c d => @perfDrawn_mk w X Y x y o a b c d)
  have HB := Lib.hid ((Below.refl w.heap.size w).alloc (Nat.le_refl _) (.cells #[.int .i64 0, .int .i64 0, .int .i64 0] 27))
  have HY := Lib.hid ((hb.keep (w' := w.alloc (.cells #[.int .i64 0, .int .i64 0, .int .i64 0] 27)) fun p hp => HB.out.cell hp).more (B' := w.heap.size + 1) (by omega))
  clear hb
  go_enter Try.func10, Try.ntmps10
  go_wp2_with fail
  refine (new_any A n c _ hn (by simpa using HY.out)).mono ?_
  rintro e w1 ⟨rfl, hc1, hb1, hs1⟩
  have HR1 := Lib.hid (Row3.call (row3_new 0 0 0 w _) hb1)
  have HB1 := Lib.hid (HB.out.trans (hb1.mono (by simp)))
  have hz : w1.heap.size = w.heap.size + 2 := by simp at hs1; omega
  have hz1 : w.heap.size + 2 ≤ w1.heap.size := by omega
  clear hs1 hb1 hz
  go_wp2_with fail
  refine (tree5_any _ _ (by simpa using hc1)).mono ?_
  rintro e w2 ⟨x, y, o, hk, hz, rfl, hc2, hg2⟩
  have HV := Lib.hid hk
  have HZ := Lib.hid hz
  have HR2 := Lib.hid (row3_grown HR1.out hg2 (by omega))
  have HB2 := Lib.hid (HB1.out.grown hg2 (by omega) (fun k hk => by cases hk; omega))
  obtain ⟨⟨c0, c1, c2⟩, f0, f1, f2⟩ := row3_cells HR2.out
  clear hg2 hc1 hc2 hk hz
  go_wp2_with fail
  refine ret_set3 c0 c1 c2 fun Y e0 e1 e2 hY => ?_
  exact bodyPost_ret (v := .agg #[.int .i64 x, .int .i64 y, .int .i64 o]) (by simp [results, Try.results10, go_sem, e0, e1, e2]) rfl (HK.out _ _ _ _ _ HV.out HZ.out HB2.out hY)
end Go.Proofs.Ytcoikcnijaniaaa.treA
