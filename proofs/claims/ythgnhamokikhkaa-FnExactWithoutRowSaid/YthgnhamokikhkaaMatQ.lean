/- The contract of the model's WithoutRow. -/
import Derived.Test.YthgnhamokikhkaaMatO
import Derived.Deep.AppendLies
namespace Go.Proofs.Ythgnhamokikhkaa.matQ
open Go.ChangeShapes Go.WideShapes Go.ChangeAt Go.RowKit
open draw gridP gridC gridE bitP mazeP mazeC mazeM mazeR mazeS intsP reachD intA intK listK rowsP matP matM
set_option linter.unusedVariables false

/-- The rows so far. -/
def wo (ls : List (List Int)) (k i : Nat) : List (List Int) := ((ls.take i).eraseIdx k).map (fun l => l.eraseIdx k)
theorem wo_zero (ls : List (List Int)) (k : Nat) : wo ls k 0 = [] := by simp [wo]
theorem wo_skip (ls : List (List Int)) (k : Nat) : wo ls k (k + 1) = wo ls k k := by
  unfold wo
  rw [List.eraseIdx_eq_take_drop_succ, List.eraseIdx_eq_take_drop_succ, List.take_take, List.take_take, Nat.min_eq_left (Nat.le_succ k), Nat.min_self,
    List.drop_eq_nil_of_le (by simp; omega), List.drop_eq_nil_of_le (by simp; omega)]
theorem wo_next {ls : List (List Int)} {k i : Nat} {l : List Int} (hl : ls[i]? = some l) (h : i ≠ k) : wo ls k (i + 1) = wo ls k i ++ [l.take k ++ l.drop (k + 1)] := by
  have hi : i < ls.length := (List.getElem?_eq_some_iff.1 hl).1
  unfold wo
  rw [List.take_add_one, hl, Option.toList_some]
  rcases Nat.lt_or_ge k i with h' | h'
  · rw [List.eraseIdx_append_of_lt_length (by simp; omega), List.map_append, List.map_singleton, List.eraseIdx_eq_take_drop_succ l]
  · rw [List.eraseIdx_of_length_le (by simp; omega), List.eraseIdx_of_length_le (by simp; omega), List.map_append, List.map_singleton, List.eraseIdx_eq_take_drop_succ l]
theorem wo_all (ls : List (List Int)) (k : Nat) : wo ls k ls.length = (ls.eraseIdx k).map (fun l => l.eraseIdx k) := by unfold wo; rw [List.take_length]
theorem wo_len (ls : List (List Int)) (k i : Nat) : (wo ls k i).length ≤ ls.length := by
  unfold wo
  rw [List.length_map]
  exact Nat.le_trans (List.length_eraseIdx_le _ _) (by simp; omega)

/-- An append, of no elements too, as one step of a region that draws. -/
theorem step_app {P : Program} {ops : Array Oper} {o : Oper} {a : Act} {w : World} {K : Act → World → Prop} {Q : Exit → Act → World → Prop} {E : Prop}
    (hg : o.guard = none) (s x : Operand) (t : TypeId) (hop : o.op = Op.call { callee := Callee.builtin Builtin.append, args := #[s, x], argTypes := #[t, t] })
    (base : Nat) (e : TypeId) (i : TypeInfo) (z : Value) (size bytes : Nat) (h1 : P.underlying t = some (.slice e)) (h2 : P.info? e = some i) (h3 : i.zero = some z) (h4 : i.size = size) (h5 : i.bytes = bytes) (h6 : z.cells.size = size) (h7 : 0 < size)
    (v : Value) (n : Nat) (xs : List Value) (hs : a.eval s = v) (hown : w.ownsRow base e size v n xs)
    (ad : Addr) (m c : Nat) (news : List Value) (hx : a.eval x = .slice (some ad) m c) (hn : news.length = m * size) (hc : ∀ j u, news[j]? = some u → w.cell? (ad.add j) = some u) (h1c : ∀ u ∈ news, u.oneCell' = true)
    (N : Nat) (ys : List Value) (hN : n + m = N) (hy : xs ++ news = ys) (b1 : N ≤ maxLen) (b2 : N * bytes ≤ 140737488355328) (hb : base ≤ w.heap.size)
    (hK : ∀ A' c' w', w'.ownsRow base e size (.slice A' N c') N ys → w.grownBy w' v.ownBlock → K (a.put o.dst (.slice A' N c')) w') :
    if Region.wanted o (yielded ops a.tmps) = true then Oper.wp P o a w K Q else E := by
  have hw : Region.wanted o (yielded ops a.tmps) = true := by simp [Region.wanted, hg]
  rw [if_pos hw]
  subst hN hy
  obtain ⟨v', w', hrun, r1, r2, -⟩ := run_append_own_at (P := P) w base t o.type e i z size bytes h1 h2 h3 h4 h5 h6 h7 v n xs hown ad m c news hn hc h1c b1 b2 hb
  obtain ⟨A', c', rfl⟩ := own_form r1
  unfold Oper.wp
  simp [execOp, hop, resolve, invoke, builtin, hs, hx, hrun, Result.andThen]
  exact hK A' c' w' r1 r2

theorem below_step {B base n s : Nat} {W X X' : World} {e : TypeId} {v : Value} {xs : List Value} (hb : Below B W X) (hB : B ≤ base) (hw : B ≤ W.heap.size) (ho : X.ownsRow base e s v n xs) (g : X.grownBy X' v.ownBlock) : Below B W X' :=
  hb.grown g (Nat.le_trans hw hb.size) (fun q hk => Nat.le_trans hB (ho.lt q hk).1)
theorem cells_int {X : World} {a : Addr} {l : List Int} (h : ∀ j u, l[j]? = some u → X.cell? (a.add j) = some (.int .i64 u)) : ∀ j u, (icells l)[j]? = some u → X.cell? (a.add j) = some u := fun j u hu => by
  unfold icells at hu
  rw [List.getElem?_map] at hu
  cases hl : l[j]? with
  | none => rw [hl] at hu; cases hu
  | some z => rw [hl] at hu; rw [h j z hl, ← Option.some.inj hu]
theorem take_cells {X : World} {a : Addr} {l : List Int} {k : Nat} (h : ∀ j u, l[j]? = some u → X.cell? (a.add j) = some (.int .i64 u)) : ∀ j u, (l.take k)[j]? = some u → X.cell? (a.add j) = some (.int .i64 u) := fun j u hu => by
  rw [List.getElem?_take] at hu
  split at hu
  · exact h j u hu
  · cases hu

/-- A row was built from two parts: what the rows are then. -/
theorem row_built {W X X2 X3 : World} {b m q : Nat} {ls : List (List Int)} {v v2 v3 : Value} {xs : List Value} {l : List Int} (h : ML W b ls v X)
    (g1 : (X.alloc (.cells #[] 3)).grownBy X2 (some X.heap.size)) (o2 : X2.ownsRow X.heap.size 3 1 v2 m xs) (g2 : X2.grownBy X3 v2.ownBlock) (hq : q = l.length) (o3 : X3.ownsRow X.heap.size 3 1 v3 q (icells l)) :
    ∃ cs : List Value, X3.ownsRow b 34 1 v ls.length cs ∧ ∀ (o : Obj) (X5 : World) (gg cap : Nat), X5.ownsRow b 34 1 (.slice (some ⟨gg, 0, none⟩) (ls.length + 1) cap) (ls.length + 1) (cs ++ [v3]) → (X3.alloc o).grownBy X5 v.ownBlock →
      ML W b (ls ++ [l]) (.slice (some ⟨gg, 0, none⟩) (ls.length + 1) cap) X5 := by
  subst hq
  have b1 : Below X.heap.size X X2 := ((Below.refl _ _).alloc (Nat.le_refl _) _).grown g1 (by simp) (fun g hk => by cases hk; exact Nat.le_refl _)
  have b2 : Below X.heap.size X X3 := b1.grown g2 b1.size (fun g hk => (o2.lt g hk).1)
  obtain ⟨cs, c1, c3, c4, c5⟩ := h.parts
  have e1 := own_call c1 b2
  refine ⟨cs, e1, fun o X5 gg cap h5 hg => ?_⟩
  refine ((h.call b2).app ⟨e1, fun i k hk => ?_, c4⟩ (own_base o3 h.2.2.1) (fun i c g hc hg' e => ?_) h5 hg).1
  · obtain ⟨c, d1, d2, d3⟩ := c3 i k hk
    exact ⟨c, d1, own_call d2 b2, fun g hg => Nat.lt_of_lt_of_le (d3 g hg) b2.size⟩
  · have := c5 i c g hc hg'
    have := (o3.lt g e).1
    omega

set_option maxRecDepth 100000 in
set_option maxHeartbeats 4000000 in
theorem withoutRow_any (A : Option Addr) (n c : Nat) (ls : List (List Int)) (k : Int) (W : World) (hn : ls.length = n) (hm : n ≤ 1048576) (hl : ∀ l ∈ ls, l.length ≤ 1048576) (hi : MxIn W W.heap.size A ls) :
    Calls Try.prog 57 #[.slice A n c, .int .i64 k] W (Mtx (woL ls k) W) := by
  have HS := Lib.hid (fun X (h : Below W.heap.size W X) => squareOk_any A n c ls X hn hm hl ((hi.below h).more h.size))
  have HN := Lib.hid (fun X => in_b k 0 ((n : Int) - 1) X)
  have hol0 := Lib.hid (ml_new (Below.refl W.heap.size W) (Nat.le_refl _))
  have HK := @Lib.hid _ (fun w' v (e : woL ls k = []) (h : ML W W.heap.size [] v w') => (by rw [e]; exact mtx_mk h.2.2.2 h.2.1 (Nat.le_refl _) h.1 : Mtx (woL ls k) W (.returned v) w'))
  by_cases hq : sqB ls = true
  · obtain ⟨q1, q2⟩ := sq_len hq
    rw [hq] at HS
    by_cases hk : 0 ≤ k ∧ k < n
    · obtain ⟨κ, rfl⟩ : ∃ κ : Nat, k = (κ : Int) := ⟨k.toNat, by omega⟩
      have hκ : κ < n := by omega
      rw [show inB (κ : Int) 0 ((n : Int) - 1) = true from decide_eq_true (by omega)] at HN
      obtain ⟨j0, hj0, hy0, hy1, hy2⟩ := info_parts info_row
      obtain ⟨i0, hi0, hz0, hz1, hz2⟩ := info_parts info_int
      have hn16 : n ≤ 16 := by omega
      have HI := Lib.hid hi
      have HL : Hid (∀ l ∈ ls, l.length = n) := Lib.hid fun l h => by rw [(q2 l h).1, hn]
      have Hn := Lib.hid hn
      have HE : Hid (∀ v w', ML W W.heap.size (wo ls κ n) v w' → Mtx (woL ls κ) W (.returned v) w') := Lib.hid fun v w' h => by
        have e : woL ls κ = wo ls κ n := by
          unfold woL
          rw [if_pos ⟨hq, by omega, by rw [hn]; omega⟩, ← hn, wo_all, Int.toNat_natCast]
        rw [e]
        exact mtx_mk h.2.2.2 h.2.1 (Nat.le_refl _) h.1
      have HW : Hid (∀ i, (wo ls κ i).length ≤ 16) := Lib.hid fun i => by have := wo_len ls κ i; omega
      clear hn hm hl hi q1 q2 hq hk HK
      have hκ0 : (0 : Int) ≤ (κ : Int) := Int.natCast_nonneg _
      have hκ1 : (κ : Int) < (n : Int) := by omega
      go_enter Try.func57, Try.ntmps57
      go_wp2_with fail
      refine (HS.out _ hol0.out.1).mono ?_
      rintro e w1 ⟨rfl, hb⟩
      have hol := Lib.hid (hol0.out.call hb)
      clear hb hol0 HS
      go_wp2_with fail
      refine (HN.out _).mono ?_
      rintro e w2 ⟨rfl, rfl⟩
      clear HN
      go_wp2_with fail
      go_loopw [5, 6] (fun u5 u6 wr => ∃ i : Nat, i ≤ n ∧ u6 = .int .i64 i ∧ ML W W.heap.size (wo ls κ i) u5 wr) (fun _ u6 _ => n - (intOf u6).toNat)
      case atStart => exact ⟨0, Nat.zero_le _, rfl, by rw [wo_zero]; exact hol.out⟩
      case round =>
        clear hol
        obtain ⟨i, hi, rfl, hol0⟩ := hrel
        have hol := Lib.hid hol0
        clear hol0
        have hi0' : (0 : Int) ≤ (i : Int) := Int.natCast_nonneg _
        by_cases hin : i < n
        · have hi1 : (i : Int) < (n : Int) := by omega
          by_cases hik : i = κ
          · subst hik
            have hne : ((i : Int) != (i : Int)) = false := by simp
            go_wp2_with fail
            go_roundw
            case rel => exact ⟨i + 1, by omega, by go_num, by rw [wo_skip]; exact hol.out⟩
            case measure => simp [intOf]; omega
          · have hne : ((i : Int) != (κ : Int)) = true := by rw [bne_iff_ne]; omega
            obtain ⟨l, hl⟩ : ∃ l, ls[i]? = some l := ⟨ls[i]'(by have := Hn.out; omega), List.getElem?_eq_getElem (by have := Hn.out; omega)⟩
            have hll := HL.out l (List.mem_of_getElem? hl)
            obtain ⟨ad, rfl, hab, A1, c1, ea0, ra, hc1, hc2⟩ := mx_cell2 HI.out hl
            rw [hll] at ea0 hc1
            obtain ⟨ai, rfl, hai, hcs⟩ := ra (by intro e; rw [e] at hll; simp at hll; omega)
            have HSx : Hid (∀ X, Below W.heap.size W X → X.cell? (ad.add i) = some (.slice (some ai) n c1)) := Lib.hid fun X hb => (hb.cell (by rw [block_of_add]; exact hab)).trans ea0
            have HCs : Hid (∀ X, Below W.heap.size W X → ∀ j u, l[j]? = some u → X.cell? (ai.add j) = some (.int .i64 u)) := Lib.hid fun X hb j u hj => (hb.cell (by rw [block_of_add]; exact hai)).trans (hcs j u hj)
            have ea := HSx.out _ hol.out.1
            obtain ⟨Av, cv, rfl⟩ := hol.out.form
            have hkc : κ ≤ c1 := by omega
            have hwr : IntKind.i64.wrap ((κ : Int) + 1) = (κ : Int) + 1 := IntWalk.i64_in _ (by omega)
            have hp0 : (0 : Int) ≤ (κ : Int) + 1 := by omega
            have hp1 : (κ : Int) + 1 ≤ (n : Int) := by omega
            obtain ⟨aj, hif, hds⟩ : ∃ aj : Addr, (if c1 = κ + 1 then some ai else some ({ block := ai.block, off := ai.off + (κ + 1) } : Addr)) = some aj ∧ (∀ X, Below W.heap.size W X → ∀ j u, (l.drop (κ + 1))[j]? = some u → X.cell? (aj.add j) = some (.int .i64 u)) := by
              by_cases hcp : c1 = κ + 1
              · refine ⟨ai, if_pos hcp, fun X hb j u hj => ?_⟩
                rw [List.drop_eq_nil_of_le (by omega)] at hj
                simp at hj
              · refine ⟨ai.add (κ + 1), (if_neg hcp).trans (by simp [Addr.add]), fun X hb j u hj => ?_⟩
                rw [List.getElem?_drop] at hj
                rw [Addr.add_add]
                exact HCs.out X hb _ u hj
            have HDs := Lib.hid hds
            have HO : Hid ((wr.alloc (.cells #[] 3)).drew.ownsRow wr.heap.size 3 1 (.slice (some ⟨wr.heap.size, 0, none⟩) 0 0) 0 []) := Lib.hid (ol_new (Below.refl wr.drew.heap.size wr.drew) (Nat.le_refl _)).2.2.2
            have HB0 : Hid (Below W.heap.size W (wr.alloc (.cells #[] 3)).drew) := Lib.hid (hol.out.dr.1.alloc hol.out.1.size _)
            have HZ : Hid (wr.heap.size ≤ (wr.alloc (.cells #[] 3)).drew.heap.size) := Lib.hid (by show _ ≤ (wr.heap.push _).size; simp)
            have HT1 : Hid ((icells (l.take κ)).length = κ * 1) := Lib.hid (by rw [icells_length, List.length_take]; omega)
            have HT2 : Hid ((icells (l.drop (κ + 1))).length = (n - (κ + 1)) * 1) := Lib.hid (by rw [icells_length, List.length_drop]; omega)
            have HT3 : Hid (n - 1 = (l.take κ ++ l.drop (κ + 1)).length) := Lib.hid (by rw [List.length_append, List.length_take, List.length_drop]; omega)
            clear hds
            go_wp2_with fail
            try simp only [List.cons_append, List.nil_append, List.append_eq]
            refine wp_region_held_drew (S := (fun w' => w'.cell? (ad.add i) = some (.slice (some ai) n c1))) (by kernel_rfl) ?_ (fun hHeld0 => ?_)
            · (try dsimp only); go_keep
            refine wpAnyH_take (i := 0) (oi := { dst := some 29, op := Go.Op.move (Go.Operand.tmp 5), type := 38, pos := "l11_det.go:105", after := #[], guard := none }) (v := ?_) rfl (by kernel_rfl) (by kernel_rfl) (by kernel_rfl) (fun _ _ _ h => h) (Or.inl ⟨by rfl, ?_⟩) (by assumption) ?_
            rotate_left
            · (intro w hSw; (try dsimp only at hSw); go_simp; try with_reducible rfl)
            try simp only [Act.put, List.setIfInBounds_toArray, List.set_cons_zero, List.set_cons_succ]
            refine wpAnyH_take (i := 2) (oi := { dst := some 31, op := Go.Op.move (Go.Operand.tmp 0), type := 38, pos := "l11_det.go:105", after := #[], guard := none }) (v := ?_) rfl (by kernel_rfl) (by kernel_rfl) (by kernel_rfl) (fun _ _ _ h => h) (Or.inl ⟨by rfl, ?_⟩) (by assumption) ?_
            rotate_left
            · (intro w hSw; (try dsimp only at hSw); go_simp; try with_reducible rfl)
            try simp only [Act.put, List.setIfInBounds_toArray, List.set_cons_zero, List.set_cons_succ]
            refine wpAnyH_take (i := 3) (oi := { dst := some 32, op := Go.Op.move (Go.Operand.tmp 6), type := 3, pos := "l11_det.go:105", after := #[], guard := none }) (v := ?_) rfl (by kernel_rfl) (by kernel_rfl) (by kernel_rfl) (fun _ _ _ h => h) (Or.inl ⟨by rfl, ?_⟩) (by assumption) ?_
            rotate_left
            · (intro w hSw; (try dsimp only at hSw); go_simp; try with_reducible rfl)
            try simp only [Act.put, List.setIfInBounds_toArray, List.set_cons_zero, List.set_cons_succ]
            refine wpAnyH_take (i := 4) (oi := { dst := some 33, op := Go.Op.indexAddr 38 (Go.Operand.tmp 31) (Go.Operand.tmp 32), type := 0, pos := "l11_det.go:105", after := #[{ on := 2, ground := Go.Ground.data }, { on := 3, ground := Go.Ground.data }], guard := none }) (v := ?_) rfl (by kernel_rfl) (by kernel_rfl) (by kernel_rfl) (fun _ _ _ h => h) (Or.inl ⟨by rfl, ?_⟩) (by assumption) ?_
            rotate_left
            · (intro w hSw; (try dsimp only at hSw); go_simp; try with_reducible rfl)
            try simp only [Act.put, List.setIfInBounds_toArray, List.set_cons_zero, List.set_cons_succ]
            refine wpAnyH_take (i := 5) (oi := { dst := some 34, op := Go.Op.load 34 (Go.Operand.tmp 33), type := 34, pos := "l11_det.go:105", after := #[{ on := 4, ground := Go.Ground.data }], guard := none }) (v := ?_) rfl (by kernel_rfl) (by kernel_rfl) (by kernel_rfl) (fun _ _ _ h => h) (Or.inl ⟨by rfl, ?_⟩) (by assumption) ?_
            rotate_left
            · (intro w hSw; (try dsimp only at hSw); go_simp; try with_reducible rfl)
            try simp only [Act.put, List.setIfInBounds_toArray, List.set_cons_zero, List.set_cons_succ]
            refine wpAnyH_take (i := 6) (oi := { dst := some 35, op := Go.Op.move (Go.Operand.tmp 1), type := 3, pos := "l11_det.go:105", after := #[], guard := none }) (v := ?_) rfl (by kernel_rfl) (by kernel_rfl) (by kernel_rfl) (fun _ _ _ h => h) (Or.inl ⟨by rfl, ?_⟩) (by assumption) ?_
            rotate_left
            · (intro w hSw; (try dsimp only at hSw); go_simp; try with_reducible rfl)
            try simp only [Act.put, List.setIfInBounds_toArray, List.set_cons_zero, List.set_cons_succ]
            refine wpAnyH_take (i := 7) (oi := { dst := some 36, op := Go.Op.slice 34 (Go.Operand.tmp 34) none (some (Go.Operand.tmp 35)) none, type := 34, pos := "l11_det.go:105", after := #[{ on := 5, ground := Go.Ground.data }, { on := 6, ground := Go.Ground.data }], guard := none }) (v := ?_) rfl (by kernel_rfl) (by kernel_rfl) (by kernel_rfl) (fun _ _ _ h => h) (Or.inl ⟨by rfl, ?_⟩) (by assumption) ?_
            rotate_left
            · (intro w hSw; (try dsimp only at hSw); go_simp; try with_reducible rfl)
            try simp only [Act.put, List.setIfInBounds_toArray, List.set_cons_zero, List.set_cons_succ]
            refine wpAnyH_take (i := 9) (oi := { dst := some 38, op := Go.Op.move (Go.Operand.tmp 0), type := 38, pos := "l11_det.go:105", after := #[], guard := none }) (v := ?_) rfl (by kernel_rfl) (by kernel_rfl) (by kernel_rfl) (fun _ _ _ h => h) (Or.inl ⟨by rfl, ?_⟩) (by assumption) ?_
            rotate_left
            · (intro w hSw; (try dsimp only at hSw); go_simp; try with_reducible rfl)
            try simp only [Act.put, List.setIfInBounds_toArray, List.set_cons_zero, List.set_cons_succ]
            refine wpAnyH_take (i := 10) (oi := { dst := some 39, op := Go.Op.move (Go.Operand.tmp 6), type := 3, pos := "l11_det.go:105", after := #[], guard := none }) (v := ?_) rfl (by kernel_rfl) (by kernel_rfl) (by kernel_rfl) (fun _ _ _ h => h) (Or.inl ⟨by rfl, ?_⟩) (by assumption) ?_
            rotate_left
            · (intro w hSw; (try dsimp only at hSw); go_simp; try with_reducible rfl)
            try simp only [Act.put, List.setIfInBounds_toArray, List.set_cons_zero, List.set_cons_succ]
            refine wpAnyH_take (i := 11) (oi := { dst := some 40, op := Go.Op.indexAddr 38 (Go.Operand.tmp 38) (Go.Operand.tmp 39), type := 0, pos := "l11_det.go:105", after := #[{ on := 9, ground := Go.Ground.data }, { on := 10, ground := Go.Ground.data }], guard := none }) (v := ?_) rfl (by kernel_rfl) (by kernel_rfl) (by kernel_rfl) (fun _ _ _ h => h) (Or.inl ⟨by rfl, ?_⟩) (by assumption) ?_
            rotate_left
            · (intro w hSw; (try dsimp only at hSw); go_simp; try with_reducible rfl)
            try simp only [Act.put, List.setIfInBounds_toArray, List.set_cons_zero, List.set_cons_succ]
            refine wpAnyH_take (i := 12) (oi := { dst := some 41, op := Go.Op.load 34 (Go.Operand.tmp 40), type := 34, pos := "l11_det.go:105", after := #[{ on := 11, ground := Go.Ground.data }], guard := none }) (v := ?_) rfl (by kernel_rfl) (by kernel_rfl) (by kernel_rfl) (fun _ _ _ h => h) (Or.inl ⟨by rfl, ?_⟩) (by assumption) ?_
            rotate_left
            · (intro w hSw; (try dsimp only at hSw); go_simp; try with_reducible rfl)
            try simp only [Act.put, List.setIfInBounds_toArray, List.set_cons_zero, List.set_cons_succ]
            refine wpAnyH_take (i := 13) (oi := { dst := some 42, op := Go.Op.move (Go.Operand.tmp 1), type := 3, pos := "l11_det.go:105", after := #[], guard := none }) (v := ?_) rfl (by kernel_rfl) (by kernel_rfl) (by kernel_rfl) (fun _ _ _ h => h) (Or.inl ⟨by rfl, ?_⟩) (by assumption) ?_
            rotate_left
            · (intro w hSw; (try dsimp only at hSw); go_simp; try with_reducible rfl)
            try simp only [Act.put, List.setIfInBounds_toArray, List.set_cons_zero, List.set_cons_succ]
            refine wpAnyH_take (i := 14) (oi := { dst := some 43, op := Go.Op.binOp Go.BinOp.add 3 (Go.Operand.tmp 42) (Go.Operand.const (Go.Value.int Go.IntKind.i64 1)) 3, type := 3, pos := "l11_det.go:105", after := #[{ on := 13, ground := Go.Ground.data }], guard := none }) (v := ?_) rfl (by kernel_rfl) (by kernel_rfl) (by kernel_rfl) (fun _ _ _ h => h) (Or.inl ⟨by rfl, ?_⟩) (by assumption) ?_
            rotate_left
            · (intro w hSw; (try dsimp only at hSw); go_simp; try with_reducible rfl)
            try simp only [Act.put, List.setIfInBounds_toArray, List.set_cons_zero, List.set_cons_succ]
            refine wpAnyH_take (i := 15) (oi := { dst := some 44, op := Go.Op.slice 34 (Go.Operand.tmp 41) (some (Go.Operand.tmp 43)) none none, type := 34, pos := "l11_det.go:105", after := #[{ on := 12, ground := Go.Ground.data }, { on := 14, ground := Go.Ground.data }], guard := none }) (v := ?_) rfl (by kernel_rfl) (by kernel_rfl) (by kernel_rfl) (fun _ _ _ h => h) (Or.inl ⟨by rfl, ?_⟩) (by assumption) ?_
            rotate_left
            · (intro w hSw; (try dsimp only at hSw); go_simp; try with_reducible rfl)
            try simp only [Act.put, List.setIfInBounds_toArray, List.set_cons_zero, List.set_cons_succ]
            refine wpAnyH_ready (rs := [1]) (by kernel_rfl) (by simp) ?_
            refine AllReadyH.cons (o := { dst := some 30, op := Go.Op.buildSlice 34 0 #[], type := 34, pos := "l11_det.go:105", after := #[], guard := none }) rfl (fun K1 hK1 => ?_) AllReadyH.nil
            go_simp
            refine hK1.out _ _ ?_ (fun hHeld1 => ?_)
            · (try dsimp only); go_keep
            clear hK1 K1 hHeld0
            try simp only [Act.put, List.setIfInBounds_toArray, List.set_cons_zero, List.set_cons_succ]
            refine wpAnyH_ready (rs := [8]) (by kernel_rfl) (by simp) ?_
            refine AllReadyH.cons (o := { dst := some 37, op := Go.Op.call { callee := Go.Callee.builtin Go.Builtin.append, args := #[Go.Operand.tmp 30, Go.Operand.tmp 36], argTypes := #[34, 34] }, type := 34, pos := "l11_det.go:105", after := #[{ on := 1, ground := Go.Ground.data }, { on := 7, ground := Go.Ground.data }], guard := none }) rfl (fun K8 hK8 => ?_) AllReadyH.nil
            refine step_app rfl (.tmp 30) (.tmp 36) 34 rfl wr.heap.size 3 i0 _ 1 8 Try.underlying34 hi0 hz0 hz1 hz2 rfl (by decide) _ 0 [] rfl HO.out ai κ c1 (icells (l.take κ)) rfl HT1.out (cells_int (take_cells (HCs.out _ HB0.out))) (oneCellI _) κ _ (Nat.zero_add κ) rfl (by unfold maxLen; omega) (by omega) HZ.out ?_; intro A2 c2 w2 o2 g2; have HO2 := Lib.hid o2; have HB2 := Lib.hid (below_step HB0.out hol.out.1.size (Nat.le_refl _) HO.out g2); have HG2 := Lib.hid g2; clear o2 g2
            refine hK8.out _ _ ?_ (fun hHeld2 => ?_)
            · (try dsimp only); exact HSx.out _ HB2.out
            clear hK8 K8 hHeld1
            try simp only [Act.put, List.setIfInBounds_toArray, List.set_cons_zero, List.set_cons_succ]
            refine wpAnyH_ready (rs := [16]) (by kernel_rfl) (by simp) ?_
            refine AllReadyH.cons (o := { dst := some 45, op := Go.Op.call { callee := Go.Callee.builtin Go.Builtin.append, args := #[Go.Operand.tmp 37, Go.Operand.tmp 44], argTypes := #[34, 34] }, type := 34, pos := "l11_det.go:105", after := #[{ on := 8, ground := Go.Ground.data }, { on := 15, ground := Go.Ground.data }, { on := 8, ground := Go.Ground.chain }], guard := none }) rfl (fun K16 hK16 => ?_) AllReadyH.nil
            refine step_app rfl (.tmp 37) (.tmp 44) 34 rfl wr.heap.size 3 i0 _ 1 8 Try.underlying34 hi0 hz0 hz1 hz2 rfl (by decide) _ κ _ rfl HO2.out aj (n - (κ + 1)) (c1 - (κ + 1)) (icells (l.drop (κ + 1))) rfl HT2.out (cells_int (HDs.out _ HB2.out)) (oneCellI _) (n - 1) (icells (l.take κ ++ l.drop (κ + 1))) (by omega) (by rw [icells_append]; rfl) (by unfold maxLen; omega) (by omega) (Nat.le_trans HZ.out HG2.out.size) ?_; intro A3 c3 w3 o3 g3; have HB3 := Lib.hid (below_step HB2.out hol.out.1.size (Nat.le_refl _) HO2.out g3); have HRB := Lib.hid (row_built hol.out.dr HG2.out HO2.out g3 HT3.out o3); clear o3 g3
            refine hK16.out _ _ ?_ (fun hHeld3 => ?_)
            · (try dsimp only); exact HSx.out _ HB3.out
            clear hK16 K16 hHeld2
            try simp only [Act.put, List.setIfInBounds_toArray, List.set_cons_zero, List.set_cons_succ]
            refine wpAnyH_ready (rs := [17]) (by kernel_rfl) (by simp) ?_
            refine AllReadyH.cons (o := { dst := some 46, op := Go.Op.buildSlice 38 1 #[(0, Go.Operand.tmp 45)], type := 38, pos := "l11_det.go:105", after := #[{ on := 16, ground := Go.Ground.data }], guard := none }) rfl (fun K17 hK17 => ?_) AllReadyH.nil
            go_simp
            refine hK17.out _ _ ?_ (fun hHeld4 => ?_)
            · (try dsimp only); exact HSx.out _ (HB3.out.alloc HB3.out.size _)
            clear hK17 K17 hHeld3
            try simp only [Act.put, List.setIfInBounds_toArray, List.set_cons_zero, List.set_cons_succ]
            refine wpAnyH_ready (rs := [18]) (by kernel_rfl) (by simp) ?_
            refine AllReadyH.cons (o := { dst := some 47, op := Go.Op.call { callee := Go.Callee.builtin Go.Builtin.append, args := #[Go.Operand.tmp 29, Go.Operand.tmp 46], argTypes := #[38, 38] }, type := 38, pos := "l11_det.go:105", after := #[{ on := 0, ground := Go.Ground.data }, { on := 17, ground := Go.Ground.data }, { on := 16, ground := Go.Ground.chain }], guard := none }) rfl (fun K18 hK18 => ?_) AllReadyH.nil
            obtain ⟨cs, hcs, hcsN⟩ := HRB.out; refine step_append_lies _ rfl (.tmp 29) (.tmp 46) 38 rfl W.heap.size 34 j0 _ 1 24 Try.underlying38 hj0 hy0 hy1 hy2 rfl (by decide) _ (wo ls κ i).length cs rfl (hcs.alloc _) ⟨w3.heap.size, 0, none⟩ 1 1 [.slice A3 (n - 1) c3] rfl rfl (news_eqI rfl (heap_alloc_new w3 _)) (fun u hu => by rw [List.mem_singleton.1 hu]; rfl) (by omega) (by have := HW.out i; unfold maxLen; omega) (by have := HW.out i; omega) (by have := HB3.out.size; simp; omega) _ rfl ?_; intro gg cap w5 o5 g5 hat hlt2; clear hat hlt2; have HM := Lib.hid (hcsN _ w5 gg cap o5 g5); clear o5 g5 hcsN hcs
            refine hK18.out _ _ ?_ (fun hHeld5 => ?_)
            · (try dsimp only); exact HSx.out _ HM.out.1
            clear hK18 K18 hHeld4
            try simp only [Act.put, List.setIfInBounds_toArray, List.set_cons_zero, List.set_cons_succ]
            refine wpAnyH_take (i := 19) (oi := { dst := some 5, op := Go.Op.assign (Go.Operand.tmp 47), type := 38, pos := "l11_det.go:105", after := #[{ on := 18, ground := Go.Ground.data }, { on := 18, ground := Go.Ground.chain }, { on := 0, ground := Go.Ground.phase }, { on := 1, ground := Go.Ground.phase }, { on := 2, ground := Go.Ground.phase }, { on := 3, ground := Go.Ground.phase }, { on := 4, ground := Go.Ground.phase }, { on := 5, ground := Go.Ground.phase }, { on := 6, ground := Go.Ground.phase }, { on := 7, ground := Go.Ground.phase }, { on := 8, ground := Go.Ground.phase }, { on := 9, ground := Go.Ground.phase }, { on := 10, ground := Go.Ground.phase }, { on := 11, ground := Go.Ground.phase }, { on := 12, ground := Go.Ground.phase }, { on := 13, ground := Go.Ground.phase }, { on := 14, ground := Go.Ground.phase }, { on := 15, ground := Go.Ground.phase }, { on := 16, ground := Go.Ground.phase }, { on := 17, ground := Go.Ground.phase }, { on := 18, ground := Go.Ground.phase }], guard := none }) (v := ?_) rfl (by kernel_rfl) (by kernel_rfl) (by kernel_rfl) (fun _ _ _ h => h) (Or.inl ⟨by rfl, ?_⟩) (by assumption) ?_
            rotate_left
            · (intro w hSw; (try dsimp only at hSw); go_simp; try with_reducible rfl)
            try simp only [Act.put, List.setIfInBounds_toArray, List.set_cons_zero, List.set_cons_succ]
            refine wpAnyH_done (by kernel_rfl) ?_ _
            go_wp2_with fail
            go_roundw
            case rel =>
              refine ⟨i + 1, by omega, by go_num, ?_⟩
              have e1 := wo_next hl hik
              have e2 : (wo ls κ (i + 1)).length = (wo ls κ i).length + 1 := by rw [e1, List.length_append]; rfl
              rw [e1]; exact HM.out
            case measure => simp [intOf]; omega
        · obtain rfl : i = n := by omega
          go_wp2_with fail
          go_ret
          exact HE.out _ _ hol.out
    · rw [show inB k 0 ((n : Int) - 1) = false from decide_eq_false (by omega)] at HN
      have HE : Hid (woL ls k = []) := Lib.hid (by unfold woL; rw [if_neg (by rw [hn]; exact fun h => hk h.2)])
      have hn16 : n ≤ 16 := by omega
      clear hn hm hl hi q1 q2 hq hk
      go_enter Try.func57, Try.ntmps57
      go_wp2_with fail
      refine (HS.out _ hol0.out.1).mono ?_
      rintro e w1 ⟨rfl, hb⟩
      have hol := Lib.hid (hol0.out.call hb)
      clear hb
      go_wp2_with fail
      refine (HN.out _).mono ?_
      rintro e w2 ⟨rfl, rfl⟩
      go_wp2_with fail
      go_ret
      exact HK.out _ _ HE.out hol.out
  · rw [show sqB ls = false by simpa using hq] at HS
    have HE : Hid (woL ls k = []) := Lib.hid (by unfold woL; rw [if_neg (fun h => hq h.1)])
    clear hn hm hl hi hq
    go_enter Try.func57, Try.ntmps57
    go_wp2_with fail
    refine (HS.out _ hol0.out.1).mono ?_
    rintro e w1 ⟨rfl, hb⟩
    have hol := Lib.hid (hol0.out.call hb)
    clear hb
    go_wp2_with fail
    go_ret
    exact HK.out _ _ HE.out hol.out
end Go.Proofs.Ythgnhamokikhkaa.matQ
