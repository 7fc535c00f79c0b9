/- What the program's count of parts and its search for the farthest cell know: plain facts; the words of their loops. -/
import Derived.Test.YthakbjdkcdppjaaMzB
import Derived.Test.YthakbjdkcdppjaaBase
import Derived.Test.YthakbjdkcdppjaaPrgM
import Derived.WalkKit
import Derived.Conc.LoneCalls

namespace Go.Proofs.Ythakbjdkcdppjaa.reachX
open Go.ChangeShapes Go.WideShapes Go.ChangeAt Go.RowKit
open draw gridP gridC bitP mazeP mazeC mazeM intsP boolP reachP reachM reachN reachD
set_option linter.unusedVariables false

/-- The distances of all cells from one, none where there is no such cell. -/
def ddZ (x y z a : Int) : List Int := if hasB x y z a = true then dl (stN x y z) (cN x y) a.toNat else []
/-- What a loop over the distances knows of the farthest cell below k. -/
def FP (D : Nat → Int) (k : Nat) (f g : Int) : Prop := (f = -1 ∧ g = -1 ∧ ∀ j, j < k → D j ≤ -1) ∨ ∃ n : Nat, f = (n : Int) ∧ g = D n ∧ 0 ≤ g ∧ IsFar D k n
theorem fp_start (D : Nat → Int) : FP D 0 (-1) (-1) := .inl ⟨rfl, rfl, fun j hj => absurd hj (by omega)⟩
theorem fp_gt {D : Nat → Int} {k : Nat} {f g : Int} (h : FP D k f g) (hg : g < D k) : FP D (k + 1) (k : Int) (D k) := by
  rcases h with ⟨rfl, rfl, h⟩ | ⟨n, rfl, rfl, h0, h1, h2⟩
  · refine .inr ⟨k, rfl, rfl, by omega, by omega, fun j hj => ?_⟩
    rcases Nat.lt_or_ge j k with h' | h'
    · have := h j h'; exact .inl (by omega)
    · obtain rfl : j = k := by omega
      exact .inr ⟨rfl, Nat.le_refl _⟩
  · refine .inr ⟨k, rfl, rfl, by omega, by omega, fun j hj => ?_⟩
    rcases Nat.lt_or_ge j k with h' | h'
    · have := h2 j h'; exact .inl (by omega)
    · obtain rfl : j = k := by omega
      exact .inr ⟨rfl, Nat.le_refl _⟩
theorem fp_le {D : Nat → Int} {k : Nat} {f g : Int} (h : FP D k f g) (hg : ¬ g < D k) : FP D (k + 1) f g := by
  rcases h with ⟨rfl, rfl, h⟩ | ⟨n, rfl, rfl, h0, h1, h2⟩
  · refine .inl ⟨rfl, rfl, fun j hj => ?_⟩
    rcases Nat.lt_or_ge j k with h' | h'
    · exact h j h'
    · obtain rfl : j = k := by omega
      omega
  · refine .inr ⟨n, rfl, rfl, h0, by omega, fun j hj => ?_⟩
    rcases Nat.lt_or_ge j k with h' | h'
    · exact h2 j h'
    · obtain rfl : j = k := by omega
      omega
theorem fp_end {D : Nat → Int} {N a : Nat} {f g : Int} (h : FP D N f g) (ha : a < N) (hD : 0 ≤ D a) : f = ((farN D a N : Nat) : Int) := by
  rcases h with ⟨rfl, rfl, h⟩ | ⟨n, rfl, rfl, h0, h1⟩
  · have := h a ha; omega
  · rw [far_one h1 (farN_far ha)]

/-- What the count of parts knows: the cells that the cells below k reach are counted. -/
def Mk (st : Nat → Nat → Int) (N : Nat) (B : List Bool) (k : Nat) : Prop := B.length = N ∧ ∀ v, v < N → (B.getD v false = true ↔ ∃ u, u < k ∧ 0 ≤ dZ st N u v)
theorem mk_start (st : Nat → Nat → Int) (N : Nat) : Mk st N (List.replicate N false) 0 := by
  refine ⟨by simp, fun v hv => ⟨fun h => ?_, fun ⟨u, hu, _⟩ => absurd hu (by omega)⟩⟩
  rw [List.getD_eq_getElem?_getD, List.getElem?_replicate, if_pos hv] at h; cases h
section
variable {st : Nat → Nat → Int} {N k : Nat} {B : List Bool}
theorem mk_least (hst : ∀ u q v : Nat, st u q = (v : Int) → v < N) (hbk : ∀ u q v : Nat, q < 4 → st u q = (v : Int) → ∃ q', q' < 4 ∧ st v q' = (u : Int)) (hk : k < N) (h : Mk st N B k) : (B.getD k false = true ↔ isLeast st N k = false) := by
  rw [h.2 k hk]
  constructor
  · rintro ⟨u, hu, hd⟩
    have h1 : ¬ isLeast st N k = true := fun e => by
      have h2 := (isLeast_iff st N k).1 e u hu
      rw [dZ_sym hk (by omega) hst hbk] at h2
      omega
    simpa using h1
  · intro e
    have h1 : ¬ ∀ j, j < k → dZ st N k j < 0 := fun h2 => by rw [(isLeast_iff st N k).2 h2] at e; cases e
    apply Classical.byContradiction
    intro hn
    apply h1
    intro j hj
    apply Classical.byContradiction
    intro hd
    exact hn ⟨j, hj, by rw [dZ_sym (by omega) hk hst hbk]; omega⟩
theorem mk_old (hst : ∀ u q v : Nat, st u q = (v : Int) → v < N) (hbk : ∀ u q v : Nat, q < 4 → st u q = (v : Int) → ∃ q', q' < 4 ∧ st v q' = (u : Int)) (hk : k < N) (h : Mk st N B k) (hb : B.getD k false = true) : Mk st N B (k + 1) := by
  refine ⟨h.1, fun v hv => (h.2 v hv).trans ⟨fun ⟨u, hu, hd⟩ => ⟨u, by omega, hd⟩, fun ⟨u, hu, hd⟩ => ?_⟩⟩
  rcases Nat.lt_or_ge u k with h' | h'
  · exact ⟨u, h', hd⟩
  · obtain rfl : u = k := by omega
    obtain ⟨t, ht, hd2⟩ := (h.2 u hk).1 hb
    obtain ⟨n, hn⟩ := (dZ_pos hk hst v).1 hd
    obtain ⟨m, hm⟩ := (dZ_pos (by omega) hst u).1 hd2
    exact ⟨t, ht, (dZ_pos (by omega) hst v).2 ⟨m + n, wk_trans hm hn⟩⟩
/-- While the cells that one reaches are counted: the first i of the list are. -/
def IM (N : Nat) (B : List Bool) (l : List Int) (B' : List Bool) (i : Nat) : Prop := B'.length = N ∧ ∀ v, v < N → (B'.getD v false = true ↔ (B.getD v false = true ∨ (v : Int) ∈ l.take i))
theorem im_start {l : List Int} (h : B.length = N) : IM N B l B 0 := ⟨h, fun v hv => by simp⟩
theorem im_step {l : List Int} {B' : List Bool} {i v : Nat} (h : IM N B l B' i) (hi : l[i]? = some (v : Int)) (hv : v < N) : IM N B l (B'.set v true) (i + 1) := by
  refine ⟨by simpa using h.1, fun u hu => ?_⟩
  rw [getB_set _ _ _ _ (by rw [h.1]; exact hv)]
  have ht : l.take (i + 1) = l.take i ++ [(v : Int)] := by rw [List.take_add_one, hi]; rfl
  rw [ht, List.mem_append]
  by_cases e : v = u
  · subst e; simp
  · rw [if_neg e, h.2 u hu]
    have : ¬ (u : Int) ∈ [(v : Int)] := by simp; omega
    simp [this]
theorem mk_new {B' : List Bool} (h : Mk st N B k) (hi : IM N B (rlN st N k N) B' (rlN st N k N).length) : Mk st N B' (k + 1) := by
  refine ⟨hi.1, fun v hv => (hi.2 v hv).trans ?_⟩
  rw [List.take_length, h.2 v hv, rlN_mem]
  constructor
  · rintro (⟨u, hu, hd⟩ | ⟨u, e, hu, hd⟩)
    · exact ⟨u, by omega, hd⟩
    · obtain rfl : u = v := by omega
      exact ⟨k, by omega, hd⟩
  · rintro ⟨u, hu, hd⟩
    rcases Nat.lt_or_ge u k with h' | h'
    · exact .inl ⟨u, h', hd⟩
    · obtain rfl : u = k := by omega
      exact .inr ⟨v, rfl, hv, hd⟩
theorem cp_step : cpN st N (k + 1) = cpN st N k + if isLeast st N k = true then 1 else 0 := rfl
end

/-- What stands while parts are counted: block b is the maze's box, block Q what is counted. -/
def PB (W : World) (b : Nat) (x y z : Int) (Q N : Nat) (B : List Bool) (X : World) : Prop :=
  Below W.heap.size W X ∧ MBox b x y z X ∧ X.ownsRow (b + 1) 4 1 (.slice (some ⟨Q, 0, none⟩) N N) N (bcells B)
theorem PB.call {W X X' : World} {b Q N : Nat} {x y z : Int} {B : List Bool} (h : PB W b x y z Q N B X) (hb : Below X.heap.size X X') : PB W b x y z Q N B X' :=
  ⟨below_call h.1 hb, h.2.1.call hb, own_call h.2.2 hb⟩
theorem PB.put {W X : World} {b Q N : Nat} {x y z : Int} {B : List Bool} (h : PB W b x y z Q N B X) (hbQ : b < Q) (hW : W.heap.size ≤ b) (j : Nat) (u : Bool) : PB W b x y z Q N (B.set j u) (X.setCell ⟨Q, j, none⟩ (.bool u)) :=
  ⟨h.1.setCell (by simp; omega) _, mbox_set h.2.1 (by simp; omega) _, bools_put h.2.2 j u⟩
theorem PB.cell {W X : World} {b Q N : Nat} {x y z : Int} {B : List Bool} (h : PB W b x y z Q N B X) (hl : B.length = N) (j : Nat) (hj : j < N) : X.cell? ⟨Q, j, none⟩ = some (.bool (B.getD j false)) ∧ X.frozen? ⟨Q, j, none⟩ = false := bools_cell h.2.2 hl j hj
theorem pb_make {W X : World} {b N : Nat} {x y z : Int} (h : Below W.heap.size W X) (hx : MBox b x y z X) (hW : W.heap.size ≤ X.heap.size) (hm : N ≤ maxLen) : PB W b x y z X.heap.size N (List.replicate N false) (X.alloc (.cells (madeCells (Value.bool false).cells N) 4)) :=
  ⟨h.alloc hW _, hx.call (below_box _ _), bools_make _ N X hx.2 hm⟩
/-- A cell of a list of integers that is owned. -/
theorem ints_cell {X : World} {base g c n i : Nat} {l : List Int} {d : Int} (h : X.ownsRow base 3 1 (.slice (some ⟨g, 0, none⟩) n c) n (icells l)) (hd : l[i]? = some d) : X.cell? ⟨g, i, none⟩ = some (.int .i64 d) := by
  have hi : i < l.length := (List.getElem?_eq_some_iff.1 hd).1
  have hn : n = l.length := by have := h.1; rw [icells_length] at this; omega
  rw [h.cellAt i (by omega), icells_at _ i hi]
  rw [List.getElem?_eq_getElem hi] at hd
  rw [Option.some.inj hd]
end Go.Proofs.Ythakbjdkcdppjaa.reachX

/- Communications of one goroutine that never wait, for the walk by weakest preconditions: the walk over frames that are no early ones, and its steps at a send with room, a receive from a buffer, a receive from a closed channel. -/
namespace Go.Proofs.Ythakbjdkcdppjaa.comP
open Go.Conc Go.RowKit
set_option linter.unusedVariables false

/-- The walk, over frames that are no early ones. -/
def WpN (P : Program) (c : Code) (Q : Exit → Act → World → Prop) (a : Act) (w : World) : Prop :=
  ∀ (b : Frame) (k : List Item) (cs : List Frame), b.kind ≠ .early → ∃ e a' w', Q e a' w' ∧ Arrives P (lone (b.at a (.code c :: k)) cs w) b k cs e a' w'
/-- The same from a place within a region on. -/
def OpsN (P : Program) (ops : Array Oper) (l : List Nat) (Q : Exit → Act → World → Prop) (a : Act) (w : World) : Prop :=
  ∀ (b : Frame) (k : List Item) (cs : List Frame), b.kind ≠ .early → ∃ e a' w', Q e a' w' ∧ Arrives P (lone (b.at a (.inRegion ops l :: k)) cs w) b k cs e a' w'

section
variable {P : Program} {Q : Exit → Act → World → Prop} {a : Act} {w : World}
theorem wpn_of {c : Code} (h : c.wp P Q a w) : WpN P c Q a w := fun b k cs _ => h b k cs
theorem wpn_seq {x y : Code} (h : WpN P x (Exit.then (WpN P y Q) Q) a w) : WpN P (Code.seq x y) Q a w := by
  intro b k cs hk
  obtain ⟨e, a₁, w₁, hq, harr⟩ := h b (.code y :: k) cs hk
  cases e with
  | normal =>
    obtain ⟨e₂, a₂, w₂, hq₂, harr₂⟩ := hq b k cs hk
    exact ⟨e₂, a₂, w₂, hq₂, .of_steps (.head step_seq harr) harr₂⟩
  | exit id => exact ⟨_, a₁, w₁, hq, .of_steps (.one step_seq) (.pass (x := .code y) rfl (fun _ _ => .inl (by simp)) harr)⟩
  | goto l => exact ⟨_, a₁, w₁, hq, .of_steps (.one step_seq) (.pass (x := .code y) rfl (fun _ _ => .inl (by simp)) harr)⟩
  | ret => exact ⟨_, a₁, w₁, hq, .of_steps (.one step_seq) (.pass (x := .code y) rfl (fun _ _ => .inl (by simp)) harr)⟩
  | panic ch => exact ⟨_, a₁, w₁, hq, .of_steps (.one step_seq) (.pass (x := .code y) rfl (fun _ _ => .inl (by simp)) harr)⟩
  | outgrown => exact ⟨_, a₁, w₁, hq, .of_steps (.one step_seq) (.pass (x := .code y) rfl (fun _ _ => .inl (by simp)) harr)⟩
/-- The first part is walked as ever. -/
theorem wpn_seq_k {x y : Code} (h : ∀ K : Act → World → Prop, (∀ a w, WpN P y Q a w → K a w) → x.wp P (Exit.then K Q) a w) : WpN P (Code.seq x y) Q a w :=
  wpn_seq (wpn_of (h _ fun _ _ h => h))
/-- The first part holds a communication, too. -/
theorem wpn_seq_n {x y : Code} (h : ∀ K : Act → World → Prop, (∀ a w, WpN P y Q a w → K a w) → WpN P x (Exit.then K Q) a w) : WpN P (Code.seq x y) Q a w :=
  wpn_seq (h _ fun _ _ h => h)
theorem wpn_cond {c : Operand} {x y : Code} {t : Bool} (hc : a.eval c = .bool t) (h : WpN P (if t then x else y) Q a w) : WpN P (Code.cond c x y) Q a w :=
  fun b k cs hk => let ⟨e, a', w', q, r⟩ := h b k cs hk; ⟨e, a', w', q, .of_steps (.one (step_cond hc)) r⟩
theorem wpn_true {c : Operand} {x y : Code} (hc : a.eval c = .bool true) (h : WpN P x Q a w) : WpN P (Code.cond c x y) Q a w := wpn_cond (t := true) hc h
theorem wpn_false {c : Operand} {x y : Code} (hc : a.eval c = .bool false) (h : WpN P y Q a w) : WpN P (Code.cond c x y) Q a w := wpn_cond (t := false) hc h
theorem wpn_block {id : Nat} {c : Code} (h : WpN P c (Exit.inBlock id Q) a w) : WpN P (Code.block id c) Q a w := by
  intro b k cs hk0
  obtain ⟨e, a₁, w₁, hq, harr⟩ := h b (.inBlock id :: k) cs hk0
  cases e with
  | normal => exact ⟨.normal, a₁, w₁, hq, .head step_block (Steps.trans harr (.one step_inBlock))⟩
  | exit id' =>
    by_cases hid : id' = id
    · simp only [Exit.inBlock, hid, if_true] at hq
      exact ⟨.normal, a₁, w₁, hq, .head step_block (harr k (by simp [exitTo, hid]))⟩
    · simp only [Exit.inBlock, hid, if_false] at hq
      refine ⟨.exit id', a₁, w₁, hq, fun k' hk => .head step_block (harr k' ?_)⟩
      have : (id == id') = false := by simp; exact fun h => hid h.symm
      simp [exitTo, this, hk]
  | goto l => exact ⟨_, a₁, w₁, hq, fun k' hk => .head step_block (harr k' (by simp [gotoIn, hk]))⟩
  | ret => exact ⟨_, a₁, w₁, hq, .of_steps (.one step_block) harr⟩
  | panic ch => exact ⟨_, a₁, w₁, hq, .of_steps (.one step_block) harr⟩
  | outgrown => exact ⟨_, a₁, w₁, hq, .of_steps (b := b) (k := k) (cs := cs) (e := .outgrown) (.one step_block) harr⟩
theorem wpn_loop {c : Code} (I : Act → World → Prop) (μ : Act → World → Nat) (h₀ : I a w)
    (round : ∀ a w, I a w → WpN P c (Exit.then (fun a' w' => I a' w' ∧ μ a' w' < μ a w) Q) a w) : WpN P (Code.loop c) Q a w := by
  intro b k cs hk0
  have key : ∀ n a w, μ a w = n → I a w →
      ∃ e a' w', Q e a' w' ∧ Arrives P (lone (b.at a (.code c :: .inLoop c :: k)) cs w) b k cs e a' w' := by
    intro n
    induction n using Nat.strongRecOn with
    | _ n ih =>
      intro a w hn hI
      obtain ⟨e, a₁, w₁, hq, harr⟩ := round a w hI b (.inLoop c :: k) cs hk0
      cases e with
      | normal =>
        obtain ⟨hI₁, hlt⟩ := hq
        obtain ⟨e₂, a₂, w₂, hq₂, harr₂⟩ := ih (μ a₁ w₁) (hn ▸ hlt) a₁ w₁ rfl hI₁
        exact ⟨e₂, a₂, w₂, hq₂, .of_steps (Steps.trans harr (.one step_inLoop)) harr₂⟩
      | exit id => exact ⟨_, a₁, w₁, hq, .pass (x := .inLoop c) rfl (fun _ _ => .inl (by simp)) harr⟩
      | goto l => exact ⟨_, a₁, w₁, hq, .pass (x := .inLoop c) rfl (fun _ _ => .inl (by simp)) harr⟩
      | ret => exact ⟨_, a₁, w₁, hq, .pass (x := .inLoop c) rfl (fun _ _ => .inl (by simp)) harr⟩
      | panic ch => exact ⟨_, a₁, w₁, hq, .pass (x := .inLoop c) rfl (fun _ _ => .inl (by simp)) harr⟩
      | outgrown => exact ⟨_, a₁, w₁, hq, .pass (x := .inLoop c) rfl (fun _ _ => .inl (by simp)) harr⟩
  obtain ⟨e, a', w', hq, harr⟩ := key _ a w rfl h₀
  exact ⟨e, a', w', hq, .of_steps (.one step_loop) harr⟩

/-- A loop whose invariant counts down. -/
theorem wpn_loop_ix {c : Code} (I : Nat → Act → World → Prop) (n : Nat) (h₀ : I n a w)
    (round : ∀ n a w, I n a w → WpN P c (Exit.then (fun a' w' => ∃ m, m < n ∧ I m a' w') Q) a w) : WpN P (Code.loop c) Q a w := by
  intro b k cs hk0
  have key : ∀ n a w, I n a w →
      ∃ e a' w', Q e a' w' ∧ Arrives P (lone (b.at a (.code c :: .inLoop c :: k)) cs w) b k cs e a' w' := by
    intro n
    induction n using Nat.strongRecOn with
    | _ n ih =>
      intro a w hI
      obtain ⟨e, a₁, w₁, hq, harr⟩ := round n a w hI b (.inLoop c :: k) cs hk0
      cases e with
      | normal =>
        obtain ⟨m, hlt, hI₁⟩ := hq
        obtain ⟨e₂, a₂, w₂, hq₂, harr₂⟩ := ih m hlt a₁ w₁ hI₁
        exact ⟨e₂, a₂, w₂, hq₂, .of_steps (Steps.trans harr (.one step_inLoop)) harr₂⟩
      | exit id => exact ⟨_, a₁, w₁, hq, .pass (x := .inLoop c) rfl (fun _ _ => .inl (by simp)) harr⟩
      | goto l => exact ⟨_, a₁, w₁, hq, .pass (x := .inLoop c) rfl (fun _ _ => .inl (by simp)) harr⟩
      | ret => exact ⟨_, a₁, w₁, hq, .pass (x := .inLoop c) rfl (fun _ _ => .inl (by simp)) harr⟩
      | panic ch => exact ⟨_, a₁, w₁, hq, .pass (x := .inLoop c) rfl (fun _ _ => .inl (by simp)) harr⟩
      | outgrown => exact ⟨_, a₁, w₁, hq, .pass (x := .inLoop c) rfl (fun _ _ => .inl (by simp)) harr⟩
  obtain ⟨e, a', w', hq, harr⟩ := key _ a w h₀
  exact ⟨e, a', w', hq, .of_steps (.one step_loop) harr⟩

/-- A function's contract from the walk over its body. -/
theorem calls_of_wpn {f : FuncId} {fn : Func} {c : Code} {args : Array Value} {R : Ending → World → Prop} (hf : P.funcs[f]? = some fn) (hb : fn.body = some c)
    (h : WpN P c (bodyPost P fn R) { tmps := args ++ Array.replicate (fn.ntmps - args.size) undef, defers := [] } w) : Calls P f args w R := by
  intro cs
  let b : Frame := { (default : Frame) with fn := f, kind := .normal }
  have henter : Frame.enter P f args .normal =
      b.at { tmps := args ++ Array.replicate (fn.ntmps - args.size) undef, defers := [] } [.code c] := by
    simp [Frame.enter, Frame.at, hf, hb, b]
  obtain ⟨e, a', w', hq, harr⟩ := h b [] cs (by simp [b])
  rw [← henter] at harr
  cases e with
  | normal =>
    obtain ⟨hd, v, hr, hR⟩ := hq
    exact ⟨.returned v, w', _, hR, Steps.trans harr (.one step_end), rfl, rfl, hd, rfl, fn, hf, hr⟩
  | ret =>
    obtain ⟨hd, v, hr, hR⟩ := hq
    obtain ⟨todo, hs⟩ := harr
    exact ⟨.returned v, w', _, hR, hs, rfl, rfl, hd, rfl, fn, hf, hr⟩
  | panic chain =>
    obtain ⟨hd, hR⟩ := hq
    obtain ⟨todo, hs⟩ := harr
    exact ⟨.panicked chain, w', _, hR, hs, rfl, rfl, hd, fn, hf⟩
  | exit id => exact hq.elim
  | goto l => exact hq.elim
  | outgrown => rcases harr with h1 | h1
                · simp [b] at h1
                · exact ⟨.outgrown, w', { (Frame.enter P f args .normal) with fn := f }, hq, h1, rfl, trivial⟩

variable {ops : Array Oper} {i : Nat} {rest : List Nat} {o : Oper}
theorem wpn_region {id : Nat} (h : OpsN P ops (List.range ops.size) Q a w) : WpN P (Code.region id ops false) Q a w :=
  fun b k cs hk => let ⟨e, a', w', q, r⟩ := h b k cs hk; ⟨e, a', w', q, .of_steps (.one step_region) r⟩
theorem opsN_end (h : Q .normal a w) : OpsN P ops [] Q a w := fun _ _ _ _ => ⟨.normal, a, w, h, .one step_region_end⟩
theorem opsN_value {v : Value} {w' : World} (ho : ops[i]? = some o) (hg : o.guard = none) (hr : (execOp a.eval o).run P w = .ok (.value v) w') (h : OpsN P ops rest Q (a.put o.dst v) w') : OpsN P ops (i :: rest) Q a w := by
  intro b k cs hk
  obtain ⟨e, a', w'', hq, harr⟩ := h b k cs hk
  have hw : Region.wanted o (yielded ops a.tmps) = true := by simp [Region.wanted, hg]
  have hs := stepG_op (P := P) (b := b) (k := k) (cs := cs) (w := w) (rest := rest) ho hw
  have hfin : (b.at a (.inRegion ops (i :: rest) :: k)).finish v = b.at (a.put o.dst v) (.inRegion ops rest :: k) := by
    rw [Frame.finish_at, ho]; rfl
  refine ⟨e, a', w'', hq, .of_steps (.one (step_lone_go ?_)) harr⟩
  rw [hs, ← hfin]; simp [stepG.apply, hr]
variable {w₁ : World} {c cap s r : Nat} {buf : Array Value} {z z' v : Value} {tm closed : Bool}
theorem opsN_send (ho : ops[i]? = some o) (hg : o.guard = none) (hr : (execOp a.eval o).run P w = .ok (.comm #[scase c v z'] true .send) w₁) (hc : w₁.heap[c]? = some (.chan cap buf false s r tm)) (hroom : buf.size < cap)
    (h : OpsN P ops rest Q (a.put o.dst undef) (w₁.setChan c cap (buf.push v) false (s + 1) r tm)) : OpsN P ops (i :: rest) Q a w := by
  intro b k cs hk
  obtain ⟨e, a', w'', hq, harr⟩ := h b k cs hk
  have hw : Region.wanted o (yielded ops a.tmps) = true := by simp [Region.wanted, hg]
  have hs := step_lone_send_room (stepG_comm (P := P) (main := true) (b := b) (k := k) (cs := cs) (w := w) (rest := rest) ho hw hk hr) hc hroom
  rw [Frame.finish_at, ho] at hs
  exact ⟨e, a', w'', hq, .of_steps (.one hs) harr⟩
theorem opsN_recv (ok : Bool) (ho : ops[i]? = some o) (hg : o.guard = none) (hr : (execOp a.eval o).run P w = .ok (.comm #[rcase c z] true (.recv ok)) w₁) (hc : w₁.heap[c]? = some (.chan cap buf closed s r tm)) (hsome : 0 < buf.size)
    (h : OpsN P ops rest Q (a.put o.dst (got ok (buf.getD 0 undef) true)) (w₁.setChan c cap (buf.extract 1 buf.size) closed s (r + 1) tm)) : OpsN P ops (i :: rest) Q a w := by
  intro b k cs hk
  obtain ⟨e, a', w'', hq, harr⟩ := h b k cs hk
  have hw : Region.wanted o (yielded ops a.tmps) = true := by simp [Region.wanted, hg]
  have hs := step_lone_recv_buf ok (stepG_comm (P := P) (main := true) (b := b) (k := k) (cs := cs) (w := w) (rest := rest) ho hw hk hr) hc hsome
  rw [Frame.finish_at, ho] at hs
  exact ⟨e, a', w'', hq, .of_steps (.one hs) harr⟩
theorem opsN_shut (ok : Bool) (ho : ops[i]? = some o) (hg : o.guard = none) (hr : (execOp a.eval o).run P w = .ok (.comm #[rcase c z] true (.recv ok)) w₁) (hc : w₁.heap[c]? = some (.chan cap #[] true s r tm))
    (h : OpsN P ops rest Q (a.put o.dst (got ok z false)) w₁) : OpsN P ops (i :: rest) Q a w := by
  intro b k cs hk
  obtain ⟨e, a', w'', hq, harr⟩ := h b k cs hk
  have hw : Region.wanted o (yielded ops a.tmps) = true := by simp [Region.wanted, hg]
  have hs := step_lone_recv_shut ok (stepG_comm (P := P) (main := true) (b := b) (k := k) (cs := cs) (w := w) (rest := rest) ho hw hk hr) hc
  rw [Frame.finish_at, ho] at hs
  exact ⟨e, a', w'', hq, .of_steps (.one hs) harr⟩
end
end Go.Proofs.Ythakbjdkcdppjaa.comP

/- The program's search: its ways from a cell, its cells that wait in a channel. -/
namespace Go.Proofs.Ythakbjdkcdppjaa.reachQ
open Go.ChangeShapes Go.WideShapes Go.ChangeAt Go.RowKit Go.Conc
open draw gridP gridC bitP mazeP mazeC mazeM intsP reachP reachM reachN reachD comP
set_option linter.unusedVariables false

theorem wl_mono (x y z u : Int) (q : Nat) : ∀ n, q ≤ n → (wlN x y z u q).length ≤ (wlN x y z u n).length := by
  intro n hn
  induction n with
  | zero => obtain rfl : q = 0 := by omega
            exact Nat.le_refl _
  | succ n ih =>
    rcases Nat.lt_or_ge n q with h | h
    · obtain rfl : q = n + 1 := by omega
      exact Nat.le_refl _
    · refine Nat.le_trans (ih h) ?_
      rw [wlN]
      split
      · simp
      · exact Nat.le_refl _
theorem wl_step {x y z u : Int} {q : Nat} (h : 0 ≤ stZ x y z u q) : (wlN x y z u (q + 1)).length = (wlN x y z u q).length + 1 := by
  rw [wlN, if_pos h, List.length_append]; rfl
theorem wl_none {x y z u : Int} {q n : Nat} (he : (wlN x y z u n).length ≤ (wlN x y z u q).length) (q' : Nat) (h1 : q ≤ q') (h2 : q' < n) : stZ x y z u q' < 0 := by
  rcases Int.lt_or_le (stZ x y z u q') 0 with h | h
  · exact h
  · have a1 := wl_mono x y z u q q' h1
    have a2 := wl_step h
    have a3 := wl_mono x y z u (q' + 1) n (by omega)
    omega
/-- The next way from a cell. -/
theorem ways_next {x y z u : Int} {i q : Nat} {d : Int} (hi : (wlN x y z u q).length = i) : ∀ n, q ≤ n → (wlN x y z u n)[i]? = some d →
    ∃ d' : Nat, d = (d' : Int) ∧ q ≤ d' ∧ d' < n ∧ 0 ≤ stZ x y z u d' ∧ (∀ q', q ≤ q' → q' < d' → stZ x y z u q' < 0) ∧ (wlN x y z u (d' + 1)).length = i + 1 := by
  intro n hn
  induction n with
  | zero => obtain rfl : q = 0 := by omega
            intro h; simp [wlN] at h
  | succ n ih =>
    intro h
    rcases Nat.lt_or_ge n q with h0 | h0
    · obtain rfl : q = n + 1 := by omega
      rw [List.getElem?_eq_none (by omega)] at h; cases h
    · by_cases hs : 0 ≤ stZ x y z u n
      · have hm := wl_mono x y z u q n h0
        rcases Nat.lt_or_ge i (wlN x y z u n).length with h1 | h1
        · rw [wlN, if_pos hs, List.getElem?_append_left h1] at h
          obtain ⟨d', e, a, b, c⟩ := ih h0 h
          exact ⟨d', e, a, by omega, c⟩
        · rw [wlN, if_pos hs, List.getElem?_append_right h1] at h
          have e0 : i - (wlN x y z u n).length = 0 := by omega
          rw [e0] at h
          exact ⟨n, by simpa using h.symm, h0, by omega, hs, fun q' a b => wl_none (by omega) q' a b, by rw [wl_step hs]; omega⟩
      · rw [wlN, if_neg hs] at h
        obtain ⟨d', e, a, b, c⟩ := ih h0 h
        exact ⟨d', e, a, by omega, c⟩
theorem inv_skip {st : Nat → Nat → Int} {N a : Nat} {D : List Int} {L : List Nat} {k q u : Nat} (h : Inv st N a D L k q) (hu : L[k]? = some u) : ∀ n, q ≤ n → (∀ q', q ≤ q' → q' < n → st u q' < 0) → Inv st N a D L k n := by
  intro n hn
  induction n with
  | zero => obtain rfl : q = 0 := by omega
            exact fun _ => h
  | succ n ih =>
    intro hs
    rcases Nat.lt_or_ge n q with h0 | h0
    · obtain rfl : q = n + 1 := by omega
      exact h
    · exact inv_none (ih h0 fun q' a b => hs q' a (by omega)) hu (hs n h0 (by omega))

/-- A channel of one goroutine: the integers that it holds, whether it is closed. -/
def CH (C N : Nat) (l : List Int) (cl : Bool) (X : World) : Prop := ∃ s r, X.heap[C]? = some (.chan N (icells l).toArray cl s r false)
/-- Two worlds are the same but for one block. -/
def But (C : Nat) (X X' : World) : Prop := X'.heap.size = X.heap.size ∧ ∀ g, g ≠ C → X'.heap[g]? = X.heap[g]?
theorem but_cell {C : Nat} {X X' : World} (h : But C X X') {p : Addr} (hp : p.block ≠ C) : X'.cell? p = X.cell? p := by
  unfold World.cell?; rw [h.2 _ hp]
theorem but_mbox {C b : Nat} {x y z : Int} {X X' : World} (h : But C X X') (hne : b ≠ C) (hx : MBox b x y z X) : MBox b x y z X' :=
  ⟨⟨(but_cell h hne).trans hx.1.1, (but_cell h hne).trans hx.1.2.1, (but_cell h hne).trans hx.1.2.2⟩, by rw [h.1]; exact hx.2⟩
theorem but_own {C base : Nat} {e : TypeId} {size n : Nat} {v : Value} {xs : List Value} {X X' : World} (h : But C X X') (hne : v.ownBlock ≠ some C) (ho : X.ownsRow base e size v n xs) : X'.ownsRow base e size v n xs := by
  refine ⟨ho.1, ?_⟩
  rcases ho.2 with h2 | ⟨g, cap, cur, rfl, hg, hh, r⟩
  · exact .inl h2
  · exact .inr ⟨g, cap, cur, rfl, hg, (h.2 g fun e => hne (by rw [e]; rfl)).trans hh, r⟩
theorem but_ds {W X X' : World} {b Q N C : Nat} {x y z : Int} {D : List Int} (h : But C X X') (hB : Below W.heap.size X X' ) (h1 : b ≠ C) (h2 : Q ≠ C) (hd : DS W b x y z Q N D X) : DS W b x y z Q N D X' :=
  ⟨hd.1.trans hB, but_mbox h h1 hd.2.1, but_own h (by show some Q ≠ some C; simpa using h2) hd.2.2⟩
theorem but_chan (X : World) (C : Nat) (cap : Nat) (buf : Array Value) (cl : Bool) (s r : Nat) (tm : Bool) : But C X (X.setChan C cap buf cl s r tm) :=
  ⟨by simp [World.setChan], fun g hg => by simp only [World.setChan]; rw [Array.getElem?_setIfInBounds_ne (fun e => hg e.symm)]⟩
theorem below_chan {B C : Nat} (X : World) (hC : B ≤ C) (cap : Nat) (buf : Array Value) (cl : Bool) (s r : Nat) (tm : Bool) : Below B X (X.setChan C cap buf cl s r tm) :=
  below_setChan (Below.refl B X) hC cap buf cl s r tm
theorem CH.lt {C N : Nat} {l : List Int} {cl : Bool} {X : World} (h : CH C N l cl X) : C < X.heap.size := by
  obtain ⟨s, r, h⟩ := h
  exact (Array.getElem?_eq_some_iff.1 h).1
theorem CH.call {C N : Nat} {l : List Int} {cl : Bool} {X X' : World} (h : CH C N l cl X) (hb : Below X.heap.size X X') : CH C N l cl X' := by
  have := h.lt
  obtain ⟨s, r, h⟩ := h
  exact ⟨s, r, (hb.block C this).trans h⟩
theorem CH.store {C N : Nat} {l : List Int} {cl : Bool} {X : World} (h : CH C N l cl X) {p : Addr} (hp : p.block ≠ C) (u : Value) : CH C N l cl (X.setCell p u) := by
  obtain ⟨s, r, h⟩ := h
  exact ⟨s, r, (Below.heap_setCell X p u C (fun e => hp e.symm)).trans h⟩
/-- What is at the channel's block after a communication. -/
theorem ch_push {C N : Nat} {l : List Int} {cl : Bool} {X : World} (h : C < X.heap.size) (v : Int) (s r : Nat) : CH C N (l ++ [v]) cl (X.setChan C N ((icells l).toArray.push (.int .i64 v)) cl s r false) :=
  ⟨s, r, by rw [heap_setChan _ _ _ _ _ _ _ _ h]; simp [icells]⟩
theorem ch_pop {C N : Nat} {v : Int} {l : List Int} {cl : Bool} {X : World} (h : C < X.heap.size) (s r : Nat) : CH C N l cl (X.setChan C N ((icells (v :: l)).toArray.extract 1 (icells (v :: l)).toArray.size) cl s r false) :=
  ⟨s, r, by rw [heap_setChan _ _ _ _ _ _ _ _ h]; simp [icells]; exact List.take_of_length_le (by simp)⟩

/-- What stands while the search is under way: the distances, and the cells that wait. -/
def SS (W : World) (b : Nat) (x y z : Int) (Q C N : Nat) (D : List Int) (l : List Int) (cl : Bool) (X : World) : Prop := DS W b x y z Q N D X ∧ CH C N l cl X
theorem SS.call {W X X' : World} {b Q C N : Nat} {x y z : Int} {D l : List Int} {cl : Bool} (h : SS W b x y z Q C N D l cl X) (hb : Below X.heap.size X X') : SS W b x y z Q C N D l cl X' := ⟨h.1.call hb, h.2.call hb⟩
theorem ss_after {W X X' : World} {b Q C N : Nat} {x y z : Int} {D l : List Int} {cl : Bool} (hb : Below X.heap.size X X') (h : SS W b x y z Q C N D l cl X) : SS W b x y z Q C N D l cl X' := h.call hb
theorem SS.put {W X : World} {b Q C N : Nat} {x y z : Int} {D l : List Int} {cl : Bool} (h : SS W b x y z Q C N D l cl X) (hbQ : b < Q) (hQC : Q < C) (hW : W.heap.size ≤ b) (j : Nat) (u : Int) : SS W b x y z Q C N (D.set j u) l cl (X.setCell ⟨Q, j, none⟩ (.int .i64 u)) :=
  ⟨h.1.put hbQ hW j u, h.2.store (by simp; omega) _⟩
theorem SS.push {W X : World} {b Q C N : Nat} {x y z : Int} {D l : List Int} {cl : Bool} (h : SS W b x y z Q C N D l cl X) (hbQ : b < Q) (hQC : Q < C) (hW : W.heap.size ≤ b) (v : Int) (s r : Nat) : SS W b x y z Q C N D (l ++ [v]) cl (X.setChan C N ((icells l).toArray.push (.int .i64 v)) cl s r false) :=
  ⟨but_ds (but_chan _ _ _ _ _ _ _ _) (below_chan X (by omega) _ _ _ _ _ _) (by omega) (by omega) h.1, ch_push h.2.lt v s r⟩
theorem SS.pop {W X : World} {b Q C N : Nat} {x y z v : Int} {D l : List Int} {cl : Bool} (h : SS W b x y z Q C N D (v :: l) cl X) (hbQ : b < Q) (hQC : Q < C) (hW : W.heap.size ≤ b) (s r : Nat) : SS W b x y z Q C N D l cl (X.setChan C N ((icells (v :: l)).toArray.extract 1 (icells (v :: l)).toArray.size) cl s r false) :=
  ⟨but_ds (but_chan _ _ _ _ _ _ _ _) (below_chan X (by omega) _ _ _ _ _ _) (by omega) (by omega) h.1, ch_pop h.2.lt s r⟩
/-- The channel is closed. -/
theorem SS.close {W X : World} {b Q C N : Nat} {x y z : Int} {D l : List Int} {cl : Bool} (h : SS W b x y z Q C N D l cl X) (hbQ : b < Q) (hQC : Q < C) (hW : W.heap.size ≤ b) (s r : Nat) : SS W b x y z Q C N D l true (X.setChan C N (icells l).toArray true s r false) :=
  ⟨but_ds (but_chan _ _ _ _ _ _ _ _) (below_chan X (by omega) _ _ _ _ _ _) (by omega) (by omega) h.1, ⟨s, r, heap_setChan _ _ _ _ _ _ _ _ h.2.lt⟩⟩
/-- The channel is made. -/
theorem ss_make {W X : World} {b Q N : Nat} {x y z : Int} {D : List Int} (h : DS W b x y z Q N D X) : SS W b x y z Q X.heap.size N D [] false (X.alloc (.chan N #[] false 0 0 false)) :=
  ⟨h.call (below_box _ _), ⟨0, 0, heap_alloc_new _ _⟩⟩
theorem len_chan {P : Program} {w : World} {c cap s r : Nat} {buf : Array Value} {closed : Bool} {dir : ChanDir} {e : TypeId} (t ty : TypeId) (ht : P.underlying t = some (.chan dir e)) (hc : w.heap[c]? = some (.chan cap buf closed s r false)) :
    (Builtin.len_ #[t] ty #[.chan (some c)]).run P w = .ok (goInt buf.size) w := by
  simp [Builtin.len_, run_underlying ht, run_getObj_chan _ _ hc]
theorem zs_drop {L : List Nat} {k u : Nat} (h : L[k]? = some u) : (zs L).drop k = (u : Int) :: (zs L).drop (k + 1) := by
  have hk : k < L.length := (List.getElem?_eq_some_iff.1 h).1
  rw [List.drop_eq_getElem_cons (by rw [zs_len]; exact hk)]
  have : L[k] = u := by rw [List.getElem?_eq_getElem hk] at h; simpa using h
  simp [zs, this]
theorem zs_drop_snoc {L : List Nat} {k : Nat} (h : k ≤ L.length) (v : Nat) : (zs (L ++ [v])).drop k = (zs L).drop k ++ [(v : Int)] := by
  rw [zs_snoc, List.drop_append_of_le_length (by rw [zs_len]; exact h)]
/-- At the head of the search's loop over the channel. -/
def HS (W : World) (b : Nat) (x y z : Int) (Q C N a n : Nat) (X : World) : Prop :=
  ∃ (D : List Int) (L : List Nat) (k : Nat), n + k = N + 1 ∧ k ≤ L.length ∧ SS W b x y z Q C N D ((zs L).drop k) (decide (L.length ≤ k)) X ∧ Inv (stN x y z) N a D L k 0
/-- At the head of its loop over the ways from a cell. -/
def TS (W : World) (b : Nat) (x y z : Int) (Q C N a k u : Nat) (v : Value) (nw n : Nat) (u51 : Value) (X : World) : Prop :=
  ∃ (D : List Int) (L : List Nat) (q i : Nat), n + i = nw ∧ q ≤ 4 ∧ u51 = .int .i64 i ∧ (wlN x y z u q).length = i ∧ L[k]? = some u ∧ SS W b x y z Q C N D ((zs L).drop (k + 1)) false X ∧ X.ownsRow (C + 1) 3 1 v nw (icells (wlZ x y z u)) ∧ Inv (stN x y z) N a D L k q
theorem hs_start {W X : World} {b : Nat} {x y z : Int} {Q C N a : Nat} (h : SS W b x y z Q C N ((List.replicate N (-1)).set a 0) ([] ++ [(a : Int)]) false X) (ha : a < N) : HS W b x y z Q C N a (N + 1) X :=
  ⟨_, [a], 0, by omega, by simp, by simpa [zs] using h, inv_start ha⟩
theorem ways_end {x y z : Int} {u q : Nat} (h : (wlZ x y z u).length ≤ (wlN x y z u q).length) (q' : Nat) (h1 : q ≤ q') (h2 : q' < 4) : stN x y z u q' < 0 := wl_none (n := 4) h q' h1 h2
theorem own_chan {C n : Nat} {e : TypeId} {v : Value} {xs : List Value} {X : World} (h : X.ownsRow (C + 1) e 1 v n xs) (cap : Nat) (buf : Array Value) (cl : Bool) (s r : Nat) (tm : Bool) : (X.setChan C cap buf cl s r tm).ownsRow (C + 1) e 1 v n xs :=
  but_own (but_chan _ _ _ _ _ _ _ _) (fun e => by have := (h.lt C e).1; omega) h
theorem hs_next {W X : World} {b : Nat} {x y z : Int} {Q C N a n k : Nat} {D : List Int} {L : List Nat} {cl : Bool} (hn : n + k = N + 1) (hk : k < L.length) (hc : cl = decide (L.length ≤ k + 1)) (h : SS W b x y z Q C N D ((zs L).drop (k + 1)) cl X) (hi : Inv (stN x y z) N a D L (k + 1) 0) : ∃ m, m < n ∧ HS W b x y z Q C N a m X :=
  ⟨n - 1, by have := hi.le; omega, D, L, k + 1, by have := hi.le; omega, by omega, by rw [← hc]; exact h, hi⟩
theorem wl_cell {X : World} {base g c nw i : Nat} {l : List Int} {d : Int} (h : X.ownsRow base 3 1 (.slice (some ⟨g, 0, none⟩) nw c) nw (icells l)) (hn : l.length = nw) (hd : l[i]? = some d) : X.cell? ⟨g, i, none⟩ = some (.int .i64 d) := by
  have hi : i < l.length := (List.getElem?_eq_some_iff.1 hd).1
  rw [h.cellAt i (by omega), icells_at _ i hi]
  rw [List.getElem?_eq_getElem hi] at hd
  rw [Option.some.inj hd]
theorem at_left {L : List Nat} {j u v : Nat} (h : L[j]? = some u) : (L ++ [v])[j]? = some u := by
  rw [List.getElem?_append_left (List.getElem?_eq_some_iff.1 h).1]; exact h
end Go.Proofs.Ythakbjdkcdppjaa.reachQ

/- The contract of the program's search: the distances of all cells from one, whose cells wait in a channel. -/
namespace Go.Proofs.Ythakbjdkcdppjaa.reachV
open Go.ChangeShapes Go.WideShapes Go.ChangeAt Go.RowKit Go.Conc
open draw gridP gridC bitP mazeP mazeC mazeM mazeI intsP reachP reachM reachN reachD comP reachQ
set_option linter.unusedVariables false

theorem hasCell_any (x y k : Int) (W : World) (h1 : 1 ≤ x) (h2 : x ≤ 4) (h3 : 1 ≤ y) (h4 : y ≤ 4) : Calls Try.prog 76 #[.agg #[.int .i64 x, .int .i64 y], .int .i64 k] W (Bl (decide (0 ≤ k ∧ k < x * y)) W) := by
  by_cases h : 0 ≤ k ∧ k < x * y
  · rw [decide_eq_true h]; exact hasCell_yes x y k W h1 h2 h3 h4 h.1 h.2
  · rw [decide_eq_false h]; exact hasCell_no x y k W h1 h2 h3 h4 h

/-- Where there is no such maze or no such cell. -/
theorem distances_no (x y z a : Int) (W : World) (hh : hasB x y z a = false) :
    Calls Try.prog 72 #[.agg #[.int .i64 x, .int .i64 y, .int .i64 z], .int .i64 a] W (Ints [] W) := by
  have HK := @Lib.hid _ (fun w' v n base => @ints_mk [] W w' v n base)
  have HB := Lib.hid below_box
  have HO := Lib.hid (fun X => ok_any x y z X)
  have HZ := Lib.hid (fun X : World => World.ownsRow_nil X W.heap.size 3 1)
  by_cases hv : OkM x y z
  · rw [show okB x y z = true from decide_eq_true hv] at HO
    obtain ⟨⟨h1, h2, h3, h4⟩, -, -⟩ := id hv
    have hc : decide (0 ≤ a ∧ a < x * y) = false := by
      unfold hasB at hh; rw [decide_eq_false_iff_not] at hh ⊢; exact fun e => hh ⟨hv, e⟩
    have HC := Lib.hid (fun X => hasCell_any x y a X h1 h2 h3 h4)
    rw [hc] at HC
    clear hh hv hc h1 h2 h3 h4
    refine calls_of_wpn Try.func72 rfl ?_
    simp only [Try.ntmps72, List.size_toArray, List.length_cons, List.length_nil, Nat.reduceAdd, Nat.reduceSub, Array.replicate_succ,
     Array.replicate_zero, List.push_toArray, List.append_toArray, List.nil_append, List.cons_append]
    refine wpn_seq_k fun K hK => ?_
    go_wp2_with fail
    refine wpn_seq_k fun K hK => ?_
    go_wp2_with fail
    refine (HO.out _).mono ?_
    rintro e w1 ⟨rfl, hb⟩
    have hbl1 := Lib.hid (below_call (HB.out _ _) hb)
    have hxc1 := Lib.hid ((mbox_new x y z W _).call hb)
    clear hb
    obtain ⟨c0, c1, c2⟩ := hxc1.out.1
    go_wp2_with fail
    refine (HC.out _).mono ?_
    rintro e w2 ⟨rfl, hb⟩
    have hbl2 := Lib.hid (below_call hbl1.out hb)
    have hxc2 := Lib.hid (hxc1.out.call hb)
    clear hb hbl1  hxc1 c0 c1 c2
    obtain ⟨c0, c1, c2⟩ := hxc2.out.1
    go_wp2_with fail
    go_ret
    exact HK.out _ _ _ _ rfl (HZ.out _) (Nat.le_refl _) hbl2.out
  · rw [show okB x y z = false from decide_eq_false hv] at HO
    clear hh hv
    refine calls_of_wpn Try.func72 rfl ?_
    simp only [Try.ntmps72, List.size_toArray, List.length_cons, List.length_nil, Nat.reduceAdd, Nat.reduceSub, Array.replicate_succ,
     Array.replicate_zero, List.push_toArray, List.append_toArray, List.nil_append, List.cons_append]
    refine wpn_seq_k fun K hK => ?_
    go_wp2_with fail
    refine wpn_seq_k fun K hK => ?_
    go_wp2_with fail
    refine (HO.out _).mono ?_
    rintro e w1 ⟨rfl, hb⟩
    have hbl1 := Lib.hid (below_call (HB.out _ _) hb)
    have hxc1 := Lib.hid ((mbox_new x y z W _).call hb)
    clear hb
    obtain ⟨c0, c1, c2⟩ := hxc1.out.1
    go_wp2_with fail
    go_ret
    exact HK.out _ _ _ _ rfl (HZ.out _) (Nat.le_refl _) hbl1.out

set_option maxRecDepth 100000 in
set_option maxHeartbeats 4000000 in
theorem distances_yes (x y z : Int) (a : Nat) (W : World) (hv : OkM x y z) (ha : (a : Int) < x * y) :
    Calls Try.prog 72 #[.agg #[.int .i64 x, .int .i64 y, .int .i64 z], .int .i64 a] W (Ints (dl (stN x y z) (cN x y) a) W) := by
  obtain ⟨i0, hi0, hz0, hz1, hz2⟩ := info_parts info_int
  obtain ⟨⟨h1, h2, h3, h4⟩, -, -⟩ := id hv
  have hcc := (mul_bd x y h1 h2 h3 h4).1
  have HO := Lib.hid (fun X => ok_any x y z X)
  rw [show okB x y z = true from decide_eq_true hv] at HO
  have HHc := Lib.hid (fun X => hasCell_any x y a X h1 h2 h3 h4)
  rw [show decide ((0 : Int) ≤ (a : Int) ∧ (a : Int) < x * y) = true from decide_eq_true ⟨Int.natCast_nonneg _, ha⟩] at HHc
  have HC := Lib.hid (fun X => cells_any x y X h1 h2 h3 h4)
  have HSt := Lib.hid (fun u q X => step_any x y z u q X)
  have HW := Lib.hid (fun u X => waysFrom_any x y z u X)
  have hlt := @stN_lt x y z
  obtain ⟨N, hN⟩ := Int.eq_ofNat_of_zero_le (show 0 ≤ x * y by omega)
  have hcN : cN x y = N := by unfold cN; omega
  rw [hcN] at hlt ⊢
  rw [hN] at HC hcc ha
  have haN : a < N := by omega
  have HLt := Lib.hid hlt
  have HEnd := @Lib.hid _ (fun D L k q (h : Inv (stN x y z) N a D L k q) hk => dl_eq h hk haN hlt)
  have HK := @Lib.hid _ (fun w' v n base => @ints_mk (dl (stN x y z) N a) W w' v n base)
  have HB := Lib.hid below_box
  clear h1 h2 h3 h4 hcN hN hlt hv
  refine calls_of_wpn Try.func72 rfl ?_
  simp only [Try.ntmps72, List.size_toArray, List.length_cons, List.length_nil, Nat.reduceAdd, Nat.reduceSub, Array.replicate_succ,
     Array.replicate_zero, List.push_toArray, List.append_toArray, List.nil_append, List.cons_append]
  refine wpn_seq_k fun K hK => ?_
  go_wp2_with fail
  refine wpn_seq_k fun K hK => ?_
  go_wp2_with fail
  refine (HO.out _).mono ?_
  rintro e w1 ⟨rfl, hb⟩
  have hbl1 := Lib.hid (below_call (HB.out _ _) hb)
  have hxc1 := Lib.hid ((mbox_new x y z W _).call hb)
  clear hb
  obtain ⟨c0, c1, c2⟩ := hxc1.out.1
  go_wp2_with fail
  refine (HHc.out _).mono ?_
  rintro e w2 ⟨rfl, hb⟩
  have hbl2 := Lib.hid (below_call hbl1.out hb)
  have hxc2 := Lib.hid (hxc1.out.call hb)
  clear hb hbl1  hxc1 c0 c1 c2
  obtain ⟨c0, c1, c2⟩ := hxc2.out.1
  go_wp2_with fail
  refine wpn_seq_k fun K hK => ?_
  go_wp2_with fail
  refine (HC.out _).mono ?_
  rintro e w1 ⟨rfl, hb⟩
  have hbl1 := Lib.hid (below_call hbl2.out hb)
  have hxm1 := Lib.hid (hxc2.out.call hb)
  have hbQ := hxm1.out.2
  have hWQ := hbl1.out.size
  have ds1 := Lib.hid (ds_make (N := N) hbl1.out hxm1.out hWQ (by unfold maxLen; omega))
  have hmk := run_make (P := Try.prog) w1 26 3 i0 (.int .i64 0) Try.underlying26 hi0 hz0 .i64 .i64 (N : Int) (N : Int) (by omega) (by omega) (by rw [hz2]; omega) (by omega)
  rw [hz1] at hmk
  simp only [Int.toNat_natCast, Nat.mul_one] at hmk
  clear hb hbl1 hxm1 hbl2 hxc2 c0 c1 c2
  go_wp2_with fail
  clear hmk
  refine wpn_seq_k fun K hK => ?_
  go_wp2_with fail
  go_loopw [28] (fun u28 wr => ∃ (k : Nat) (D : List Int), k ≤ N ∧ u28 = .int .i64 k ∧ D.length = N ∧ (∀ j, j < k → D[j]? = some (-1)) ∧ DS W W.heap.size x y z w1.heap.size N D wr) (fun u28 _ => N - (intOf u28).toNat)
  case atStart => exact ⟨0, List.replicate N 0, Nat.zero_le _, rfl, by simp, fun j hj => absurd hj (by omega), ds1.out⟩
  case round =>
    obtain ⟨k, D, hk, rfl, hDl, hDm, hds0⟩ := hrel
    have hds := Lib.hid hds0
    have HDm := Lib.hid hDm
    clear hds0 hDm ds1
    by_cases hkN : k < N
    · obtain ⟨cu, fu⟩ := hds.out.cell hDl k hkN
      have HN := Lib.hid (hds.out.put hbQ (Nat.le_refl _) k (-1))
      have HM : Hid (∀ j, j < k + 1 → (D.set k (-1))[j]? = some (-1)) := fun j hj => by
        rw [List.getElem?_set]
        by_cases e : k = j
        · subst e; simp; omega
        · rw [if_neg e]; exact HDm.out j (by omega)
      have hk0 : (0 : Int) ≤ (k : Int) := Int.natCast_nonneg _
      have hk1 : (k : Int) < (N : Int) := by omega
      go_wp2_with fail
      go_roundw
      case rel => exact ⟨k + 1, _, by omega, by go_num, by simpa using hDl, HM.out, HN.out⟩
      case measure => simp [intOf]; omega
    · obtain rfl : k = N := by omega
      have hD : D = List.replicate k (-1) := by
        apply List.ext_getElem?
        intro j
        by_cases hj : j < k
        · rw [HDm.out j hj]; simp [hj]
        · rw [List.getElem?_eq_none (by omega), List.getElem?_eq_none (by simp; omega)]
      subst hD
      clear HDm
      go_wp2_with fail
      have hdr := hds.out.1.size
      have hwr : w1.heap.size < wr.heap.size := own_at hds.out.2.2
      have hmc := run_makeChan (P := Try.prog) (w := wr) Try.underlying98 hi0 .i64 k (by omega) (by rw [hz2]; omega)
      have ss1 := Lib.hid (ss_make hds.out)
      refine wpn_seq_k fun K hK => ?_
      go_wp2_with fail
      clear hmc hds
      generalize wr.alloc (.chan k #[] false 0 0 false) = X1 at *
      generalize wr.heap.size = C at *
      generalize w1.heap.size = Q at *
      obtain ⟨cu, fu⟩ := ss1.out.1.cell hDl a haN
      have ss2 := Lib.hid (ss1.out.put hbQ hwr (Nat.le_refl _) a 0)
      have ha0 : (0 : Int) ≤ (a : Int) := Int.natCast_nonneg _
      have ha1 : (a : Int) < (k : Int) := by omega
      refine wpn_seq_k fun K hK => ?_
      go_wp2_with fail
      clear cu fu ss1
      generalize X1.setCell ⟨Q, a, none⟩ (.int .i64 0) = X2 at *
      refine wpn_seq_n fun K hK => ?_
      refine wpn_region ?_
      show OpsN _ _ [0, 1, 2] _ _ _
      obtain ⟨s, r, hc⟩ := id ss2.out.2
      have ss3 := Lib.hid (ss2.out.push hbQ hwr (Nat.le_refl _) a (s + 1) r)
      refine opsN_value (v := .chan (some C)) (w' := X2) rfl rfl (by simp [execOp, Act.eval]) ?_
      refine opsN_value (v := .int .i64 a) (w' := X2) rfl rfl (by simp [execOp, Act.eval, Act.put]) ?_
      refine opsN_send (c := C) (cap := k) (buf := (icells []).toArray) (s := s) (r := r) (tm := false) (v := .int .i64 a) (z' := .tuple #[]) (w₁ := X2) rfl rfl (by simp [execOp, scase, Act.eval, Act.put]) hc (by simp [icells]; omega) ?_
      refine opsN_end ?_
      generalize X2.setChan C k ((icells []).toArray.push (.int .i64 a)) false (s + 1) r false = X3 at *
      clear hc ss2
      go_wp2_with fail
      refine wpn_seq_n fun K hK => ?_
      refine wpn_seq_k fun K hK => ?_
      go_wp2_with fail
      refine wpn_block ?_
      refine wpn_loop_ix (fun n a' w' => ∃ u8 u10 u11 u44 u45 u46 u47 u48 u49 u50 u51 u52 u53 u54 u55 u56 u57 u58 u59 u60 u61 u62 u63 u64 u65 u66 u67 u68 u69 u70 u71 u72 u73 u74 u75 u76 u77 u78 : Value, a' = ⟨#[Value.agg #[Value.int IntKind.i64 x, Value.int IntKind.i64 y, Value.int IntKind.i64 z], Value.int IntKind.i64 a, Value.pointer (some ⟨W.heap.size, 0, none⟩), undef, Value.slice none 0 0, Value.slice (some ⟨Q, 0, none⟩) k k, u6, Value.chan (some C), u8, undef, u10, u11, Value.agg #[Value.int IntKind.i64 x, Value.int IntKind.i64 y, Value.int IntKind.i64 z], Value.bool true, Value.bool false, Value.bool false, Value.pointer (some ⟨W.heap.size, 0, none⟩), Value.agg #[Value.int IntKind.i64 x, Value.int IntKind.i64 y], Value.int IntKind.i64 a, Value.bool true, Value.bool false, Value.bool false, Value.pointer (some ⟨W.heap.size, 0, none⟩), Value.agg #[Value.int IntKind.i64 x, Value.int IntKind.i64 y], Value.int IntKind.i64 k, Value.slice (some ⟨Q, 0, none⟩) k k, Value.slice (some ⟨Q, 0, none⟩) k k, Value.int IntKind.i64 k, Value.int IntKind.i64 k, Value.bool false, u30, u31, u32, u33, u34, Value.slice (some ⟨Q, 0, none⟩) k k, Value.int IntKind.i64 k, Value.chan (some C), Value.slice (some ⟨Q, 0, none⟩) k k, Value.int IntKind.i64 a, Value.pointer (some ⟨Q, a, none⟩), Value.chan (some C), Value.int IntKind.i64 a, Value.chan (some C), u44, u45, u46, u47, u48, u49, u50, u51, u52, u53, u54, u55, u56, u57, u58, u59, u60, u61, u62, u63, u64, u65, u66, u67, u68, u69, u70, u71, u72, u73, u74, u75, u76, u77, u78, undef], []⟩ ∧ HS W W.heap.size x y z Q C k a n w') (k + 1) ?_ ?_
      · refine ⟨_, _, _, _, _, _, _, _, _, _, _, _, _, _, _, _, _, _, _, _, _, _, _, _, _, _, _, _, _, _, _, _, _, _, _, _, _, _, rfl, hs_start ss3.out haN⟩
      rintro n _ wr ⟨u8, u10, u11, u44, u45, u46, u47, u48, u49, u50, u51, u52, u53, u54, u55, u56, u57, u58, u59, u60, u61, u62, u63, u64, u65, u66, u67, u68, u69, u70, u71, u72, u73, u74, u75, u76, u77, u78, rfl, hrel⟩
      dsimp only
      clear ss3
      obtain ⟨D, L, j, hnj, hj, hss0, hi0⟩ := hrel
      have hss := Lib.hid hss0
      have hi := Lib.hid hi0
      have hLN := hi0.le
      clear hss0 hi0
      by_cases hjl : j < L.length
      · have hu := Lib.hid (List.getElem?_eq_getElem hjl)
        have huN := hi.out.ins _ (List.getElem_mem hjl)
        generalize L[j] = u at hu huN
        have hcl : decide (L.length ≤ j) = false := by simp; omega
        have hssb := hss.out
        rw [hcl, zs_drop hu.out] at hssb
        obtain ⟨s, r, hc⟩ := id hssb.2
        have ss4 := Lib.hid (hssb.pop hbQ hwr (Nat.le_refl _) s (r + 1))
        clear hss hssb hcl
        refine wpn_seq_n fun K hK => ?_
        refine wpn_region ?_
        show OpsN _ _ [0, 1] _ _ _
        refine opsN_recv (c := C) (cap := k) (buf := (icells ((u : Int) :: (zs L).drop (j + 1))).toArray) (closed := false) (s := s) (r := r) (tm := false) (z := .int .i64 0) (w₁ := wr) true rfl rfl (by simp [go_sem, rcase]) hc (by simp [icells]) ?_
        generalize wr.setChan C k ((icells ((u : Int) :: (zs L).drop (j + 1))).toArray.extract 1 (icells ((u : Int) :: (zs L).drop (j + 1))).toArray.size) false s (r + 1) false = X4 at *
        refine opsN_value (v := .bool true) (w' := X4) rfl rfl (by simp [go_sem, execOp, Act.eval, Act.put, got]) ?_
        refine opsN_end ?_
        rw [show (icells ((u : Int) :: (zs L).drop (j + 1))).toArray.getD 0 undef = .int .i64 u from rfl]
        simp only [got, if_true]
        clear hc
        go_wp2_with fail
        refine wpn_seq_k fun K hK => ?_
        go_wp2_with fail
        refine wpn_block ?_
        refine wpn_seq_k fun K hK => ?_
        go_wp2_with fail
        obtain ⟨m0, m1, m2⟩ := ss4.out.1.2.1.1
        refine wpn_seq_n fun K hK => ?_
        refine wpn_seq_k fun K hK => ?_
        go_wp2_with fail
        refine (HW.out u _).mono ?_
        rintro e w5 ⟨vw, rfl, hw, hb⟩
        have ss5 := Lib.hid (ss4.out.call hb)
        have hC4 := ss4.out.2.lt
        have hw5 := Lib.hid (own_base hw (show C + 1 ≤ X4.heap.size by omega))
        obtain ⟨Av, cv, rfl⟩ := own_form hw
        have hlw := wlN_len x y z u 4
        change (wlZ x y z u).length ≤ 4 at hlw
        have hnw : Hid ((wlZ x y z u).length ≤ (wlZ x y z u).length) := Lib.hid (Nat.le_refl _)
        clear hb hw m0 m1 m2 ss4 hC4
        go_wp2_with fail
        have hTS : TS W W.heap.size x y z Q C k a j u (.slice Av (wlZ x y z u).length cv) (wlZ x y z u).length (wlZ x y z u).length (.int .i64 0) w5 :=
          ⟨D, L, 0, 0, by omega, by omega, rfl, rfl, hu.out, ss5.out, hw5.out, hi.out⟩
        generalize hnwe : (wlZ x y z u).length = nw at *
        have hnj' : n + j = k + 1 := hnj
        clear hnj hj hi hLN hjl hu ss5 hw5 D L hnw
        refine wpn_block ?_
        refine wpn_loop_ix (fun n a' w' => ∃ u10 u11 u51 u52 u53 u54 u55 u56 u57 u58 u59 u60 u61 u62 u63 u64 u65 u66 u67 u68 u69 u70 u71 u72 u73 u74 : Value, a' = ⟨#[Value.agg #[Value.int IntKind.i64 x, Value.int IntKind.i64 y, Value.int IntKind.i64 z], Value.int IntKind.i64 a, Value.pointer (some ⟨W.heap.size, 0, none⟩), undef, Value.slice none 0 0, Value.slice (some ⟨Q, 0, none⟩) k k, u6, Value.chan (some C), Value.int IntKind.i64 u, undef, u10, u11, Value.agg #[Value.int IntKind.i64 x, Value.int IntKind.i64 y, Value.int IntKind.i64 z], Value.bool true, Value.bool false, Value.bool false, Value.pointer (some ⟨W.heap.size, 0, none⟩), Value.agg #[Value.int IntKind.i64 x, Value.int IntKind.i64 y], Value.int IntKind.i64 a, Value.bool true, Value.bool false, Value.bool false, Value.pointer (some ⟨W.heap.size, 0, none⟩), Value.agg #[Value.int IntKind.i64 x, Value.int IntKind.i64 y], Value.int IntKind.i64 k, Value.slice (some ⟨Q, 0, none⟩) k k, Value.slice (some ⟨Q, 0, none⟩) k k, Value.int IntKind.i64 k, Value.int IntKind.i64 k, Value.bool false, u30, u31, u32, u33, u34, Value.slice (some ⟨Q, 0, none⟩) k k, Value.int IntKind.i64 k, Value.chan (some C), Value.slice (some ⟨Q, 0, none⟩) k k, Value.int IntKind.i64 a, Value.pointer (some ⟨Q, a, none⟩), Value.chan (some C), Value.int IntKind.i64 a, Value.chan (some C), Value.tuple #[Value.int IntKind.i64 u, Value.bool true], Value.bool true, Value.int IntKind.i64 u, Value.agg #[Value.int IntKind.i64 x, Value.int IntKind.i64 y, Value.int IntKind.i64 z], Value.int IntKind.i64 u, Value.slice Av nw cv, Value.int IntKind.i64 nw, u51, u52, u53, u54, u55, u56, u57, u58, u59, u60, u61, u62, u63, u64, u65, u66, u67, u68, u69, u70, u71, u72, u73, u74, u75, u76, u77, u78, undef], []⟩ ∧ TS W W.heap.size x y z Q C k a j u (.slice Av nw cv) nw n u51 w') nw ?_ ?_
        · refine ⟨_, _, _, _, _, _, _, _, _, _, _, _, _, _, _, _, _, _, _, _, _, _, _, _, _, _, rfl, hTS⟩
        clear hTS
        rintro n' _ wr ⟨u10, u11, u51, u52, u53, u54, u55, u56, u57, u58, u59, u60, u61, u62, u63, u64, u65, u66, u67, u68, u69, u70, u71, u72, u73, u74, rfl, hrel⟩
        dsimp only
        obtain ⟨D, L, q, i, hni, hq4, rfl, hqi, hu0, hss0, hw0, hi0⟩ := hrel
        have hss := Lib.hid hss0
        have hi := Lib.hid hi0
        have hw := Lib.hid hw0
        have hu := Lib.hid hu0
        have hLN := hi0.le
        have hjl : j < L.length := (List.getElem?_eq_some_iff.1 hu0).1
        clear hss0 hi0 hw0 hu0
        by_cases hinw : i < nw
        · have hd := List.getElem?_eq_getElem (show i < (wlZ x y z u).length by omega)
          have hdx := Lib.hid hd
          generalize (wlZ x y z u)[i] = d at hd hdx
          obtain ⟨dn, rfl, hd1, hd2, hd3, hd4, hd5⟩ := ways_next hqi 4 hq4 hd
          have hi2 := Lib.hid (inv_skip hi.out hu.out dn hd1 hd4)
          have huN := hi.out.ins u (List.mem_of_getElem? hu.out)
          obtain ⟨v, hv⟩ := Int.eq_ofNat_of_zero_le hd3
          have hvk : v < k := HLt.out u dn v hv
          have HSq := Lib.hid (fun X => HSt.out u dn X)
          rw [hv] at HSq
          have hi0' : (0 : Int) ≤ (i : Int) := Int.natCast_nonneg _
          have hi1' : (i : Int) < (nw : Int) := by omega
          obtain ⟨g, cg, hge, hg, hgs⟩ := own_some hw.out (by omega)
          cases hge
          have hcell := wl_cell hw.out hnwe hdx.out
          obtain ⟨m0, m1, m2⟩ := hss.out.1.2.1.1
          have HI := Lib.hid hi
          have Hu := Lib.hid hu
          clear hd hdx
          refine wpn_seq_k fun K hK => ?_
          go_wp2_with fail
          refine wpn_seq_k fun K hK => ?_
          go_wp2_with fail
          refine wpn_seq_n fun K hK => ?_
          refine wpn_block ?_
          refine wpn_seq_k fun K hK => ?_
          go_wp2_with fail
          refine wpn_seq_k fun K hK => ?_
          go_wp2_with fail
          refine (HSq.out _).mono ?_
          rintro e w6 ⟨rfl, hb⟩
          have ss6 := Lib.hid (hss.out.call hb)
          have hw6 := Lib.hid (own_call hw.out hb)
          clear hb hss hw hcell m0 m1 m2
          go_wp2_with fail
          have hDl := hi.out.len
          obtain ⟨cv', fv⟩ := ss6.out.1.cell hDl v hvk
          obtain ⟨cu', fu⟩ := ss6.out.1.cell hDl u huN
          have hv0 : (0 : Int) ≤ (v : Int) := Int.natCast_nonneg _
          have hv1 : (v : Int) < (k : Int) := by omega
          have hu0 : (0 : Int) ≤ (u : Int) := Int.natCast_nonneg _
          have hu1 : (u : Int) < (k : Int) := by omega
          by_cases hd0 : D.getD v (-1) < 0
          · have HI2 := Lib.hid (inv_new hi2.out hd2 hu.out hv hvk hd0)
            have hdu : 0 ≤ D.getD u (-1) ∧ D.getD u (-1) ≤ 16 := by
              obtain ⟨n, e1, e2, _⟩ := hi.out.wk j u hu.out
              omega
            have ss7 := Lib.hid (ss6.out.put hbQ hwr (Nat.le_refl _) v (D.getD u (-1) + 1))
            have hw7 := Lib.hid (own_put hw6.out (p := ⟨Q, v, none⟩) (by simp; omega) (.int .i64 (D.getD u (-1) + 1)))
            have hd' : decide (D.getD v (-1) < 0) = true := by simpa using hd0
            clear HI Hu hd0
            generalize D.getD v (-1) = dv at *
            generalize D.getD u (-1) = du at *
            refine wpn_seq_k fun K hK => ?_
            go_wp2_with fail
            refine wpn_true rfl ?_
            refine wpn_seq_k fun K hK => ?_
            go_wp2_with fail
            clear cv' cu' fv fu hd' ss6 hw6
            generalize w6.setCell ⟨Q, v, none⟩ (.int .i64 (du + 1)) = X7 at *
            obtain ⟨s, r, hc⟩ := id ss7.out.2
            have ss8 := Lib.hid (ss7.out.push hbQ hwr (Nat.le_refl _) v (s + 1) r)
            have hw8 := Lib.hid (own_chan hw7.out k ((icells ((zs L).drop (j + 1))).toArray.push (.int .i64 v)) false (s + 1) r false)
            refine wpn_region ?_
            show OpsN _ _ [0, 1, 2] _ _ _
            refine opsN_value (v := .chan (some C)) (w' := X7) rfl rfl (by simp [execOp, Act.eval]) ?_
            refine opsN_value (v := .int .i64 v) (w' := X7) rfl rfl (by simp [execOp, Act.eval, Act.put]) ?_
            refine opsN_send (c := C) (cap := k) (buf := (icells ((zs L).drop (j + 1))).toArray) (s := s) (r := r) (tm := false) (v := .int .i64 v) (z' := .tuple #[]) (w₁ := X7) rfl rfl (by simp [execOp, scase, Act.eval, Act.put]) hc (by simp [icells, zs]; omega) ?_
            refine opsN_end ?_
            generalize X7.setChan C k ((icells ((zs L).drop (j + 1))).toArray.push (.int .i64 v)) false (s + 1) r false = X8 at *
            clear hc ss7 hw7
            have hTS : TS W W.heap.size x y z Q C k a j u (.slice (some ⟨g, 0, none⟩) nw cv) nw (n' - 1) (.int .i64 ((i : Int) + 1)) X8 :=
              ⟨_, L ++ [v], dn + 1, i + 1, by omega, by omega, by go_num, hd5, at_left hu.out, by rw [zs_drop_snoc (by omega)]; exact ss8.out, hw8.out, HI2.out⟩
            have HTS := Lib.hid hTS
            clear hTS ss8 hw8 HI2
            go_wp2_with fail
            refine wpn_of ?_
            go_wp2_with fail
            exact ⟨n' - 1, by omega, _, _, _, _, _, _, _, _, _, _, _, _, _, _, _, _, _, _, _, _, _, _, _, _, _, _, rfl, HTS.out⟩
          · have HI2 := Lib.hid (inv_seen hi2.out hu.out hv (by omega))
            have hd' : decide (D.getD v (-1) < 0) = false := by simpa using hd0
            have hTS : TS W W.heap.size x y z Q C k a j u (.slice (some ⟨g, 0, none⟩) nw cv) nw (n' - 1) (.int .i64 ((i : Int) + 1)) w6 :=
              ⟨_, L, dn + 1, i + 1, by omega, by omega, by go_num, hd5, hu.out, ss6.out, hw6.out, HI2.out⟩
            have HTS := Lib.hid hTS
            clear hTS HI2
            generalize D.getD v (-1) = dv at *
            generalize D.getD u (-1) = du at *
            clear hd0
            refine wpn_seq_k fun K hK => ?_
            go_wp2_with fail
            refine wpn_false rfl ?_
            refine wpn_of ?_
            go_wp2_with fail
            refine wpn_of ?_
            go_wp2_with fail
            exact ⟨n' - 1, by omega, _, _, _, _, _, _, _, _, _, _, _, _, _, _, _, _, _, _, _, _, _, _, _, _, _, _, rfl, HTS.out⟩
        · have hi3 := Lib.hid (inv_next (inv_skip hi.out hu.out 4 hq4 fun q' b1 b2 => ways_end (by omega) q' b1 b2) hu.out)
          have hi1' : decide ((i : Int) < (nw : Int)) = false := by simp; omega
          refine wpn_seq_k fun K hK => ?_
          go_wp2_with fail
          refine wpn_seq_k fun K hK => ?_
          go_wp2_with fail
          obtain ⟨s, r, hc⟩ := id hss.out.2
          have hlc := fun ty => len_chan (P := Try.prog) 98 ty Try.underlying98 hc
          by_cases hend : L.length ≤ j + 1
          · have hbz : ((icells ((zs L).drop (j + 1))).toArray).size = 0 := by simp [icells, zs]; omega
            rw [hbz] at hlc
            have ss9 := Lib.hid (hss.out.close hbQ hwr (Nat.le_refl _) s r)
            have hcl := fun ats ty => run_close_open (P := Try.prog) (w := wr) ats ty hc
            change ∀ (ats : Array TypeId) (ty : TypeId), _ = Result.ok _ (wr.setChan C k (icells ((zs L).drop (j + 1))).toArray true s r false) at hcl
            have HN := Lib.hid (hs_next hnj' hjl (by symm; simpa using hend) ss9.out hi3.out)
            generalize wr.setChan C k (icells ((zs L).drop (j + 1))).toArray true s r false = X9 at *
            clear ss9 hss hi hu hw hi3
            refine wpn_seq_k fun K hK => ?_
            go_wp2_with fail
            refine wpn_of ?_
            go_wp2_with fail
            obtain ⟨m, hm, hrel⟩ := HN.out
            exact ⟨m, hm, _, _, _, _, _, _, _, _, _, _, _, _, _, _, _, _, _, _, _, _, _, _, _, _, _, _, _, _, _, _, _, _, _, _, _, _, _, _, rfl, hrel⟩
          · obtain ⟨m, hm⟩ : ∃ m : Nat, ((icells ((zs L).drop (j + 1))).toArray).size = m + 1 := ⟨L.length - (j + 1) - 1, by simp [icells, zs]; omega⟩
            rw [hm] at hlc
            have hm0 : (((m + 1 : Nat) : Int) == 0) = false := by simp; omega
            have HN := Lib.hid (hs_next hnj' hjl (by symm; simpa using hend) hss.out hi3.out)
            clear hss hi hu hw hi3
            refine wpn_seq_k fun K hK => ?_
            go_wp2_with fail
            refine wpn_of ?_
            go_wp2_with fail
            obtain ⟨m, hm, hrel⟩ := HN.out
            exact ⟨m, hm, _, _, _, _, _, _, _, _, _, _, _, _, _, _, _, _, _, _, _, _, _, _, _, _, _, _, _, _, _, _, _, _, _, _, _, _, _, _, rfl, hrel⟩
      · have hcl : decide (L.length ≤ j) = true := by simp; omega
        have hD := HEnd.out D L j 0 hi.out (by omega)
        subst hD
        have hssb := hss.out
        have hl0 : (zs L).drop j = [] := List.drop_eq_nil_of_le (by rw [zs_len]; omega)
        rw [hcl, hl0] at hssb
        obtain ⟨s, r, hc⟩ := id hssb.2
        refine wpn_seq_n fun K hK => ?_
        refine wpn_region ?_
        show OpsN _ _ [0, 1] _ _ _
        refine opsN_shut (c := C) (cap := k) (s := s) (r := r) (tm := false) (z := .int .i64 0) (w₁ := wr) true rfl rfl (by simp [go_sem, rcase]) hc ?_
        refine opsN_value (v := .bool false) (w' := wr) rfl rfl (by simp [go_sem, execOp, Act.eval, Act.put, got]) ?_
        refine opsN_end ?_
        simp only [got, if_true]
        go_wp2_with fail
        refine wpn_seq_k fun K hK => ?_
        go_wp2_with fail
        refine wpn_of ?_
        go_wp2_with fail
        go_ret
        exact HK.out _ _ _ _ (by rw [dl_len]) hssb.1.2.2 (by omega) hssb.1.1
end Go.Proofs.Ythakbjdkcdppjaa.reachV

/- The contracts of the program's exported functions on reaching cells. -/
namespace Go.Proofs.Ythakbjdkcdppjaa.reachI
open Go.ChangeShapes Go.WideShapes Go.ChangeAt Go.RowKit
open draw gridP gridC bitP mazeP mazeC mazeM mazeI intsP boolP reachP reachM reachN reachD reachX reachV
set_option linter.unusedVariables false

theorem distances_any (x y z a : Int) (W : World) :
    Calls Try.prog 72 #[.agg #[.int .i64 x, .int .i64 y, .int .i64 z], .int .i64 a] W (Ints (ddZ x y z a) W) := by
  unfold ddZ
  by_cases h : hasB x y z a = true
  · rw [if_pos h]
    obtain ⟨hv, k, rfl, ha, -⟩ := has_form h
    simpa using distances_yes x y z k W hv ha
  · rw [if_neg h]
    exact distances_no x y z a W (by simpa using h)

theorem reached_no (x y z a : Int) (W : World) (hh : hasB x y z a = false) :
    Calls Try.prog 68 #[.agg #[.int .i64 x, .int .i64 y, .int .i64 z], .int .i64 a] W (Ints (rsZ x y z a) W) := by
  have hr : rsZ x y z a = [] := by unfold rsZ; rw [hh]; rfl
  rw [hr]
  have HK := @Lib.hid _ (fun w' v n base => @ints_mk [] W w' v n base)
  have HZ := Lib.hid (fun X : World => World.ownsRow_nil X W.heap.size 3 1)
  have HB := Lib.hid (fun o => below_box W o)
  have HD := Lib.hid (fun X => distances_any x y z a X)
  rw [show ddZ x y z a = [] by unfold ddZ; rw [hh]; rfl] at HD
  clear hr hh
  go_enter Try.func68, Try.ntmps68
  go_wp2_with fail
  refine (HD.out _).mono ?_
  rintro e w1 ⟨v, rfl, ho, hb⟩
  have hbl1 := Lib.hid (below_call (HB.out _) hb)
  obtain ⟨A1, c1, rfl⟩ := own_form ho
  clear hb ho
  go_wp2_with fail
  go_loopw [5, 12] (fun u5 u12 wr => u5 = .slice none 0 0 ∧ u12 = .int .i64 0 ∧ wr = w1) (fun _ _ _ => 0)
  case atStart => exact ⟨rfl, rfl, rfl⟩
  case round =>
    obtain ⟨rfl, rfl, rfl⟩ := hrel
    go_wp2_with fail
    go_ret
    exact HK.out _ _ _ _ rfl (HZ.out _) (Nat.le_refl _) hbl1.out

set_option maxRecDepth 100000 in
set_option maxHeartbeats 1000000 in
theorem reached_yes (x y z a : Int) (W : World) (hh : hasB x y z a = true) :
    Calls Try.prog 68 #[.agg #[.int .i64 x, .int .i64 y, .int .i64 z], .int .i64 a] W (Ints (rsZ x y z a) W) := by
  obtain ⟨i0, hi0, hz0, hz1, hz2⟩ := info_parts info_int
  have HD := Lib.hid (fun X => distances_any x y z a X)
  rw [show ddZ x y z a = dl (stN x y z) (cN x y) a.toNat by unfold ddZ; rw [if_pos hh]] at HD
  obtain ⟨hv, k, rfl, ha, haN, hak, hN16, hNN⟩ := has_form hh
  have hr : rsZ x y z (k : Int) = rlN (stN x y z) (cN x y) k (cN x y) := by unfold rsZ; rw [if_pos hh]; simp
  rw [hr]
  simp only [Int.toNat_natCast] at HD
  generalize cN x y = N at *
  generalize stN x y z = st at *
  have HK := @Lib.hid _ (fun w' v n base => @ints_mk (rlN st N k N) W w' v n base)
  have HB := Lib.hid (fun o => below_box W o)
  have HZ := Lib.hid (fun X : World => World.ownsRow_nil X (W.heap.size + 1) 3 1)
  clear hr hh ha hak hNN hv
  go_enter Try.func68, Try.ntmps68
  go_wp2_with fail
  refine (HD.out _).mono ?_
  rintro e w2 ⟨vd, rfl, hd, hb⟩
  have hbl2 := Lib.hid (below_call (HB.out _) hb)
  rw [dl_len] at hd
  obtain ⟨g, cg, rfl, hg, hgs⟩ := own_some hd (by omega)
  have hvd := Lib.hid (own_base hd (show W.heap.size + 1 ≤ (W.alloc (.cells #[.int .i64 x, .int .i64 y, .int .i64 z] 30)).heap.size by simp))
  have hne : Hid ((Value.slice none 0 0).ownBlock ≠ some g) := by
    show none ≠ some g
    simp
  clear hb hd HB
  go_wp2_with fail
  go_loopw [5, 12] (fun u5 u12 wr => RS W g N k st (.slice (some ⟨g, 0, none⟩) N cg) u5 u12 wr) (fun _ u12 _ => N - (intOf u12).toNat)
  case atStart => exact ⟨0, Nat.zero_le _, rfl, hbl2.out, HZ.out _, hne.out, hvd.out⟩
  case round =>
    obtain ⟨j, hj, rfl, hb0, ho0, hn0, hv0⟩ := hrel
    have hbl := Lib.hid hb0
    have ho := Lib.hid ho0
    have hn := Lib.hid hn0
    have hv := Lib.hid hv0
    have hll := rlN_len st N k j
    have hsz := hb0.size
    obtain ⟨A5, c5, rfl⟩ := own_form ho0
    have hgx := own_at hv0
    clear hb0 ho0 hn0 hv0 hbl2 hne hvd HZ
    by_cases hjN : j < N
    · have hcell := dl_cell hv.out rfl hjN
      have hj0 : (0 : Int) ≤ (j : Int) := Int.natCast_nonneg _
      have hj1 : (j : Int) < (N : Int) := by omega
      by_cases hd : 0 ≤ dZ st N k j
      · have HA := @Lib.hid _ (fun X' gg cap ob p1 p2 p3 => @rs_add W wr X' g N k j gg cap cg st _ ob hjN hd hbl.out ho.out hn.out hv.out p1 p2 p3)
        generalize dZ st N k j = dv at *
        go_wp2_with (at_builtin; refine wpList_append_lies _ rfl (.tmp 19) (.tmp 21) 26 rfl (W.heap.size + 1) 3 i0 _ 1 8 Try.underlying26 hi0 hz0 hz1 hz2 rfl (by omega) _ (rlN st N k j).length _ rfl (ho.out.alloc _) ⟨wr.heap.size, 0, none⟩ 1 1 (icells [(j : Int)]) rfl rfl (news_eqI rfl (heap_alloc_new wr _)) (oneCellI _) (by omega) (by unfold maxLen; omega) (by omega) (by simp; omega) (wr.heap.size + 1) (by simp) ?_; intro gg cap w3 hown' hgrow hat hlt2; clear hlt2)
        have HAt := Lib.hid hat
        clear hat
        go_roundw
        case rel => exact HA.out _ _ _ _ hown' hgrow HAt.out
        case measure => simp [intOf]; omega
      · have HN := Lib.hid (rs_skip hjN hd hbl.out ho.out hn.out hv.out)
        have hd' : decide (0 ≤ dZ st N k j) = false := by simpa using hd
        generalize dZ st N k j = dv at *
        clear hd
        go_wp2_with fail
        go_roundw
        case rel => exact HN.out
        case measure => simp [intOf]; omega
    · obtain rfl : j = N := by omega
      go_wp2_with fail
      go_ret
      exact HK.out _ _ _ _ rfl ho.out (by omega) hbl.out

theorem reached_any (x y z a : Int) (W : World) :
    Calls Try.prog 68 #[.agg #[.int .i64 x, .int .i64 y, .int .i64 z], .int .i64 a] W (Ints (rsZ x y z a) W) := by
  by_cases h : hasB x y z a = true
  · exact reached_yes x y z a W h
  · exact reached_no x y z a W (by simpa using h)

theorem countParts_bad (x y z : Int) (W : World) (hv : ¬ OkM x y z) :
    Calls Try.prog 54 #[.agg #[.int .i64 x, .int .i64 y, .int .i64 z]] W (Nm (ptZ x y z) W) := by
  have HO := Lib.hid (fun X => ok_any x y z X)
  rw [show okB x y z = false from decide_eq_false hv] at HO
  have hend : 0 = ptZ x y z := by unfold ptZ; rw [if_neg hv]
  have HK := @Lib.hid _ (fun w' b => @nm_mk _ _ W w' hend b)
  have HB := Lib.hid below_box
  clear hv hend
  go_enter Try.func54, Try.ntmps54
  go_wp2_with fail
  refine (HO.out _).mono ?_
  rintro e w1 ⟨rfl, hb⟩
  have hbl1 := Lib.hid (below_call (HB.out _ _) hb)
  clear hb
  go_wp2_with fail
  go_ret
  exact HK.out _ hbl1.out

set_option maxRecDepth 100000 in
set_option maxHeartbeats 4000000 in
theorem countParts_good (x y z : Int) (W : World) (hv : OkM x y z) :
    Calls Try.prog 54 #[.agg #[.int .i64 x, .int .i64 y, .int .i64 z]] W (Nm (ptZ x y z) W) := by
  obtain ⟨i0, hi0, hz0, hz1, hz2⟩ := info_parts info_bool
  have HO := Lib.hid (fun X => ok_any x y z X)
  rw [show okB x y z = true from decide_eq_true hv] at HO
  obtain ⟨⟨h1, h2, h3, h4⟩, -, -⟩ := id hv
  have hcc := (mul_bd x y h1 h2 h3 h4).1
  have HC := Lib.hid (fun X => cells_any x y X h1 h2 h3 h4)
  have hend : ((cpN (stN x y z) (cN x y) (cN x y) : Nat) : Int) = ptZ x y z := by unfold ptZ; rw [if_pos hv]
  have HK := @Lib.hid _ (fun w' b => @nm_mk _ _ W w' hend b)
  have HB := Lib.hid below_box
  have HR : Hid (∀ (k : Nat), k < cN x y → ∀ X, Calls Try.prog 68 #[.agg #[.int .i64 x, .int .i64 y, .int .i64 z], .int .i64 k] X (Ints (rlN (stN x y z) (cN x y) k (cN x y)) X)) := fun k hk X => by
    have hkb : (k : Int) < x * y := by unfold cN at hk; omega
    have hh : hasB x y z k = true := decide_eq_true ⟨hv, by omega, hkb⟩
    have := reached_any x y z k X
    unfold rsZ at this; rw [if_pos hh] at this
    simpa using this
  have HL := @Lib.hid _ (fun k B => @mk_least (stN x y z) (cN x y) k B (@stN_lt x y z) (@stN_back x y z))
  have HMo := @Lib.hid _ (fun k B => @mk_old (stN x y z) (cN x y) k B (@stN_lt x y z) (@stN_back x y z))
  have hNe : x * y = (cN x y : Int) := by unfold cN; omega
  rw [hNe] at HC hcc
  clear hv hend hNe h1 h2 h3 h4
  generalize cN x y = N at *
  generalize stN x y z = st at *
  go_enter Try.func54, Try.ntmps54
  go_wp2_with fail
  refine (HO.out _).mono ?_
  rintro e w1 ⟨rfl, hb⟩
  have hbl1 := Lib.hid (below_call (HB.out _ _) hb)
  have hxc1 := Lib.hid ((mbox_new x y z W _).call hb)
  clear hb
  obtain ⟨c0, c1, c2⟩ := hxc1.out.1
  go_wp2_with fail
  refine (HC.out _).mono ?_
  rintro e w2 ⟨rfl, hb⟩
  have hbl2 := Lib.hid (below_call hbl1.out hb)
  have hxc2 := Lib.hid (hxc1.out.call hb)
  have hbQ := hxc2.out.2
  have hWQ := hbl2.out.size
  have pb0 := Lib.hid (pb_make (N := N) hbl2.out hxc2.out hWQ (by unfold maxLen; omega))
  have hmk := run_make (P := Try.prog) w2 63 4 i0 (.bool false) Try.underlying63 hi0 hz0 .i64 .i64 (N : Int) (N : Int) (by omega) (by omega) (by rw [hz2]; omega) (by omega)
  rw [hz1] at hmk
  simp only [Int.toNat_natCast, Nat.mul_one] at hmk
  clear hb hbl1 hxc1 hbl2 hxc2 c0 c1 c2
  go_wp2_with fail
  clear hmk
  go_loopw [4, 17] (fun u4 u17 wr => ∃ (k : Nat) (B : List Bool), k ≤ N ∧ u17 = .int .i64 k ∧ u4 = .int .i64 ((cpN st N k : Nat) : Int) ∧ Mk st N B k ∧ PB W W.heap.size x y z w2.heap.size N B wr) (fun _ u17 _ => N - (intOf u17).toNat)
  case atStart => exact ⟨0, _, Nat.zero_le _, rfl, rfl, mk_start st N, pb0.out⟩
  case round =>
    obtain ⟨k, B, hk, rfl, rfl, hm0, hpb0⟩ := hrel
    have hm := Lib.hid hm0
    have hpb := Lib.hid hpb0
    have hle := cpN_le st N k
    have hBl := hm0.1
    clear hm0 hpb0 pb0
    by_cases hkN : k < N
    · obtain ⟨cu, fu⟩ := hpb.out.cell hBl k hkN
      have hk0 : (0 : Int) ≤ (k : Int) := Int.natCast_nonneg _
      have hk1 : (k : Int) < (N : Int) := by omega
      have hls := HL.out k B hkN hm.out
      have hcs := @cp_step st N k
      cases hBk : B.getD k false with
      | true =>
        rw [hBk] at cu hls
        have HM2 := Lib.hid (HMo.out k B hkN hm.out hBk)
        have hle2 : isLeast st N k = false := hls.1 rfl
        rw [hle2, if_neg (by decide), Nat.add_zero] at hcs
        clear hls hle2 hBk
        go_wp2_with fail
        go_roundw
        case rel => exact ⟨k + 1, B, by omega, by go_num, by rw [hcs]; rfl, HM2.out, hpb.out⟩
        case measure => simp [intOf]; omega
      | false =>
        rw [hBk] at cu hls
        have hle2 : isLeast st N k = true := by
          cases h : isLeast st N k with
          | true => rfl
          | false => exact absurd (hls.2 h) (by decide)
        rw [hle2, if_pos rfl] at hcs
        have HCs := Lib.hid (show ((cpN st N k : Nat) : Int) + 1 = ((cpN st N (k + 1) : Nat) : Int) by rw [hcs]; omega)
        have HRk := Lib.hid (HR.out k hkN)
        have HNew := @Lib.hid _ (fun B' => @mk_new st N k B B' hm.out)
        have HMem := Lib.hid (fun v (h : v ∈ rlN st N k N) => (rlN_mem st N k N v).1 h)
        have hll := rlN_len st N k N
        obtain ⟨m0, m1, m2⟩ := hpb.out.2.1.1
        clear hls hle2 hBk hcs
        generalize rlN st N k N = l at *
        go_wp2_with fail
        refine (HRk.out _).mono ?_
        rintro e w3 ⟨v, rfl, ho, hb⟩
        have pb3 := Lib.hid (hpb.out.call hb)
        have ho3 := Lib.hid (own_base ho (show w2.heap.size + 1 ≤ wr.heap.size from own_lt hpb.out.2.2 _ rfl))
        obtain ⟨A3, c3, rfl⟩ := own_form ho
        clear ho hb hpb cu fu m0 m1 m2
        go_wp2_with fail
        go_loopw [30] (fun u30 wq => ∃ (i : Nat) (B' : List Bool), i ≤ l.length ∧ u30 = .int .i64 i ∧ IM N B l B' i ∧ PB W W.heap.size x y z w2.heap.size N B' wq ∧ wq.ownsRow (w2.heap.size + 1) 3 1 (.slice A3 l.length c3) l.length (icells l)) (fun u30 _ => l.length - (intOf u30).toNat)
        case atStart => exact ⟨0, B, Nat.zero_le _, rfl, im_start hBl, pb3.out, ho3.out⟩
        case round =>
          clear pb3 ho3
          obtain ⟨i, B', hi, rfl, hI0, hp0, ho0⟩ := hrel
          have hI := Lib.hid hI0
          have hp := Lib.hid hp0
          have ho := Lib.hid ho0
          have hBl' := hI0.1
          clear hI0 hp0 ho0
          by_cases hil : i < l.length
          · have hd := List.getElem?_eq_getElem hil
            obtain ⟨v, hv, hvN, -⟩ := HMem.out _ (List.getElem_mem hil)
            rw [hv] at hd
            have HI2 := Lib.hid (im_step hI.out hd hvN)
            obtain ⟨g, cg, hge, hg, hgs⟩ := own_some ho.out (by omega)
            cases hge
            have hcell := ints_cell ho.out hd
            obtain ⟨cv, fv⟩ := hp.out.cell hBl' v hvN
            have hi0' : (0 : Int) ≤ (i : Int) := Int.natCast_nonneg _
            have hi1' : (i : Int) < (l.length : Int) := by omega
            have hv0 : (0 : Int) ≤ (v : Int) := Int.natCast_nonneg _
            have hv1 : (v : Int) < (N : Int) := by omega
            have HP2 := Lib.hid (hp.out.put hbQ (Nat.le_refl _) v true)
            have HO2 := Lib.hid (own_put ho.out (p := ⟨w2.heap.size, v, none⟩) (by simp) (.bool true))
            clear hv hd hp ho hI
            go_wp2_with fail
            go_roundw
            case rel => exact ⟨i + 1, _, by omega, by go_num, HI2.out, HP2.out, HO2.out⟩
            case measure => simp [intOf]; omega
          · obtain rfl : i = l.length := by omega
            have HM2 := Lib.hid (HNew.out B' hI.out)
            go_wp2_with fail
            go_roundw
            case rel => exact ⟨k + 1, B', by omega, by go_num, by rw [HCs.out], HM2.out, hp.out⟩
            case measure => simp [intOf]; omega
    · obtain rfl : k = N := by omega
      go_wp2_with fail
      go_ret
      exact HK.out _ hpb.out.1

theorem countParts_any (x y z : Int) (W : World) :
    Calls Try.prog 54 #[.agg #[.int .i64 x, .int .i64 y, .int .i64 z]] W (Nm (ptZ x y z) W) := by
  by_cases hv : OkM x y z
  · exact countParts_good x y z W hv
  · exact countParts_bad x y z W hv

theorem isConnected_any (x y z : Int) (W : World) :
    Calls Try.prog 33 #[.agg #[.int .i64 x, .int .i64 y, .int .i64 z]] W (Bl (cnB x y z) W) := by
  have HK := @Lib.hid _ (fun w' b => @bl_mk (ptZ x y z == 1) (cnB x y z) W w' rfl b)
  have HB := Lib.hid below_box
  have HP := Lib.hid (fun X => countParts_any x y z X)
  generalize ptZ x y z = v at *
  go_enter Try.func33, Try.ntmps33
  go_wp2_with fail
  refine (HP.out _).mono ?_
  rintro e w1 ⟨rfl, hb⟩
  have hbl1 := Lib.hid (below_call (HB.out _ _) hb)
  clear hb
  go_wp2_with fail
  go_ret
  exact HK.out _ hbl1.out

end Go.Proofs.Ythakbjdkcdppjaa.reachI
