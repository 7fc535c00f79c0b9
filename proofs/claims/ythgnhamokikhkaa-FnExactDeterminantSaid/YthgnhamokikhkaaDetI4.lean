/- The contract of the program's determinant. -/
import Derived.Test.YthgnhamokikhkaaDetI3
namespace Go.Proofs.Ythgnhamokikhkaa.detI
open Go.ChangeShapes Go.WideShapes Go.ChangeAt Go.RowKit
open draw gridC mazeC intsP reachD intA intK listK rowsP detP matP eucP
set_option linter.unusedVariables false

/-- The size of the entry that is to become 0. -/
def entN (g i j : Nat) (w : World) : Nat :=
  match w.cell? ⟨g, i, none⟩ with
  | some (.slice (some a) _ _) => (match w.cell? ⟨a.block, j, none⟩ with | some (.int _ z) => z.natAbs | _ => 0)
  | _ => 0
theorem ent_is {g i j q n c : Nat} {w : World} {k : IntKind} {z : Int} (h1 : w.cell? ⟨g, i, none⟩ = some (.slice (some ⟨q, 0, none⟩) n c)) (h2 : w.cell? ⟨q, j, none⟩ = some (.int k z)) : entN g i j w = z.natAbs := by
  unfold entN; rw [h1]; show (match w.cell? ⟨q, j, none⟩ with | some (.int _ z) => z.natAbs | _ => 0) = _; rw [h2]

/-- The rows between the rounds, and the variable that holds them. -/
def ES (W : World) (n R : Nat) (A : Option Addr) (c : Nat) (ms : List (List Int)) (X : World) : Prop :=
  MxOw X W.heap.size R (.slice A n c) ms ∧ Below W.heap.size W X ∧ X.cell? ⟨R, 0, none⟩ = some (.slice A n c) ∧ R < X.heap.size ∧ W.heap.size ≤ R
theorem ES.dr {W X : World} {n R c : Nat} {A : Option Addr} {ms : List (List Int)} (h : ES W n R A c ms X) : ES W n R A c ms X.drew :=
  ⟨h.1.call ⟨rfl, rfl, rfl, Nat.le_refl _, fun _ _ => rfl⟩, below_call h.2.1 ⟨rfl, rfl, rfl, Nat.le_refl _, fun _ _ => rfl⟩, h.2.2.1, h.2.2.2.1, h.2.2.2.2⟩
theorem ES.kept {W X X' : World} {n R c : Nat} {A : Option Addr} {ms ms' : List (List Int)} (h : ES W n R A c ms X) (hm : MxOw X' W.heap.size R (.slice A n c) ms') (hk : KeptO W.heap.size R X X') : ES W n R A c ms' X' := by
  obtain ⟨-, h2, h3, h4, h5⟩ := h
  refine ⟨hm, hk.below h2 (Nat.le_refl _) h2.size, ?_, Nat.lt_of_lt_of_le h4 hk.2.2.2.1, h5⟩
  rw [World.cell?_of_block (a := ⟨R, 0, none⟩) (w := X) (hk.2.2.2.2 R h4 (.inr (Nat.le_refl _)))]; exact h3
/-- Where rows and entries lie. -/
theorem ES.at' {W X : World} {n R c : Nat} {A : Option Addr} {ms : List (List Int)} (h : ES W n R A c ms X) (hr : ∀ l ∈ ms, l.length = n) {i : Nat} (hi : i < n) : ∃ g, A = some ⟨g, 0, none⟩ ∧ ∃ li q cq, ms[i]? = some li ∧ li.length = n ∧ X.cell? ⟨g, i, none⟩ = some (.slice (some ⟨q, 0, none⟩) n cq) ∧ ∀ j, j < n → X.cell? ⟨q, j, none⟩ = some (.int .i64 (mfn ms i j)) ∧ mfn ms i j ∈ li := by
  have hn := mx_num h.1
  have hl := List.getElem?_eq_getElem (show i < ms.length by omega)
  have hll := hr _ (List.mem_of_getElem? hl)
  obtain ⟨-, g, ea, -, -, -, A1, c1, e1, o1, -⟩ := h.1.row hl
  rw [hll] at e1 o1
  obtain ⟨q, c1', r1, -, -⟩ := own_some o1 (by omega)
  cases r1
  refine ⟨g, ea, _, q, c1, hl, hll, e1, fun j hj => ?_⟩
  have hz := List.getElem?_eq_getElem (show j < (ms[i]'(by omega)).length by omega)
  have e : mfn ms i j = (ms[i]'(by omega))[j]'(by omega) := by
    unfold mfn
    simp [List.getD_eq_getElem?_getD, hl, hz]
  rw [e]
  exact ⟨own_cellI o1 hz, List.getElem_mem _⟩

/-- One step of Euclid's way: a row was added, now the two rows change places. -/
theorem eu_round {W wr w3 : World} {n R c g τ ρ q1 q2 c2 c3 : Nat} {ms : List (List Int)} {lτ lρ : List Int} {s D zt : Int} (he : Eu ms n τ ρ s D) (hs : ES W n R (some ⟨g, 0, none⟩) c ms wr) (hρ : τ < ρ) (hρn : ρ < n) (m1 : ms[τ]? = some lτ) (m2 : ms[ρ]? = some lρ)
    (h1 : wr.cell? ⟨g, τ, none⟩ = some (.slice (some ⟨q1, 0, none⟩) n c3)) (h2 : wr.cell? ⟨g, ρ, none⟩ = some (.slice (some ⟨q2, 0, none⟩) n c2)) (hz : mfn ms ρ τ ≠ 0) (hzt : zt = IntKind.i64.wrap (-IntKind.i64.wrap ((mfn ms τ τ).tdiv (mfn ms ρ τ))))
    (ho : MxOw w3 W.heap.size R (.slice (some ⟨g, 0, none⟩) n c) (ms.set τ (adL lτ lρ zt))) (hk : KeptO W.heap.size R wr.drew w3) (hc : ∀ j, w3.cell? ⟨g, j, none⟩ = wr.drew.cell? ⟨g, j, none⟩) :
    (w3.cell? ⟨R, 0, none⟩ = some (.slice (some ⟨g, 0, none⟩) n c) ∧ w3.cell? ⟨g, τ, none⟩ = some (.slice (some ⟨q1, 0, none⟩) n c3) ∧ w3.cell? ⟨g, ρ, none⟩ = some (.slice (some ⟨q2, 0, none⟩) n c2) ∧ w3.cell? ⟨q2, τ, none⟩ = some (.int .i64 (mfn ms ρ τ))) ∧
    (w3.frozen? ⟨g, τ, none⟩ = false ∧ w3.frozen? ⟨g, ρ, none⟩ = false ∧ g ≠ R) ∧
    Eu ((ms.set τ lρ).set ρ (adL lτ lρ zt)) n τ ρ (wrap64 (-s)) D ∧
    ∀ w4, w4 = ((w3.setCell ⟨g, τ, none⟩ (.slice (some ⟨q2, 0, none⟩) n c2)).setCell ⟨g, ρ, none⟩ (.slice (some ⟨q1, 0, none⟩) n c3)).drew →
      ES W n R (some ⟨g, 0, none⟩) c ((ms.set τ lρ).set ρ (adL lτ lρ zt)) w4 ∧ entN g ρ τ w4 < (mfn ms ρ τ).natAbs := by
  have hn := he.len
  have hs3 := hs.dr.kept ho hk
  have l1 := he.row lτ (List.mem_of_getElem? m1)
  have l2 := he.row lρ (List.mem_of_getElem? m2)
  have hlen : lτ.length = lρ.length := by omega
  have g1 : (ms.set τ (adL lτ lρ zt))[τ]? = some (adL lτ lρ zt) := List.getElem?_set_self (by omega)
  have g2 : (ms.set τ (adL lτ lρ zt))[ρ]? = some lρ := by rw [List.getElem?_set_ne (by omega)]; exact m2
  have k1 : w3.cell? ⟨g, τ, none⟩ = some (.slice (some ⟨q1, 0, none⟩) n c3) := (hc τ).trans h1
  have k2 : w3.cell? ⟨g, ρ, none⟩ = some (.slice (some ⟨q2, 0, none⟩) n c2) := (hc ρ).trans h2
  have hfz : ∀ j, w3.frozen? ⟨g, j, none⟩ = false := fun j => by
    have hnm := mx_num ho
    obtain ⟨cs, o1, -⟩ := ho
    rw [← hnm] at o1
    exact o1.frozenAt j
  have hgR : g < R := by
    obtain ⟨cs, -, o2, -⟩ := ho
    exact o2 g rfl
  have he1 := he.step (t := zt) hρ hρn m1 m2
  have hm : ∀ i j, mfn ms i j = (ms.getD i []).getD j 0 := fun i j => rfl
  have d1 : mfn ms τ τ = lτ.getD τ 0 := by simp [mfn, List.getD_eq_getElem?_getD, m1]
  have d2 : mfn ms ρ τ = lρ.getD τ 0 := by simp [mfn, List.getD_eq_getElem?_getD, m2]
  refine ⟨⟨hs3.2.2.1, k1, k2, ?_⟩, ⟨hfz τ, hfz ρ, by omega⟩, he1, ?_⟩
  · obtain ⟨-, g', eg, -, -, -, A1, c1, e1, o1, -⟩ := ho.row g2
    cases eg
    rw [l2, k2] at e1
    injection e1 with e1
    injection e1 with e1 e2 e3
    subst e1 e3
    rw [l2] at o1
    refine own_cellI o1 ?_
    rw [d2, List.getD_eq_getElem?_getD, List.getElem?_eq_getElem (by omega)]; rfl
  · rintro w4 rfl
    obtain ⟨s1, s2⟩ := MxOw.swap hs3.1 g1 g2 (ci := .slice (some ⟨q1, 0, none⟩) n c3) (ck := .slice (some ⟨q2, 0, none⟩) n c2) k1 k2
    rw [List.set_set] at s1
    have hs4 := (hs3.kept s1 (s2 _ (kept_refl _ _ _))).dr
    refine ⟨hs4, ?_⟩
    obtain ⟨g', eg, lr, q, cq, r1, r2, r3, r4⟩ := hs4.at' he1.row hρn
    cases eg
    rw [ent_is r3 (r4 τ (by omega)).1, mfn_set (by rw [List.length_set]; omega), if_pos rfl, ad_get hlen (by omega), ← d1, ← d2]
    have hw : zt = wrap64 (- wrap64 ((mfn ms τ τ).tdiv (mfn ms ρ τ))) := by
      rw [hzt, IntKind.wrap_i64, IntKind.wrap_i64]; unfold wrap64; rfl
    have b1 := he.rng lτ (List.mem_of_getElem? m1) (mfn ms τ τ) (by
      rw [d1, List.getD_eq_getElem?_getD, List.getElem?_eq_getElem (by omega)]; exact List.getElem_mem _)
    have b2 := he.rng lρ (List.mem_of_getElem? m2) (mfn ms ρ τ) (by
      rw [d2, List.getD_eq_getElem?_getD, List.getElem?_eq_getElem (by omega)]; exact List.getElem_mem _)
    obtain ⟨u1, u2⟩ := eu_less b1 b2 hz
    rw [hw, u1]; exact u2

set_option maxRecDepth 100000 in
set_option maxHeartbeats 4000000 in
theorem determinantOf_any (A1 : Option Addr) (n c1 : Nat) (ls : List (List Int)) (W w1 : World) (hn : ls.length = n) (h16 : n ≤ 16) (hr : ∀ l ∈ ls, l.length = n) (hz : ∀ l ∈ ls, ∀ z ∈ l, -9223372036854775808 ≤ z ∧ z ≤ 9223372036854775807)
    (ho : MxOw w1 W.heap.size w1.heap.size (.slice A1 n c1) ls) (hb : Below W.heap.size W w1) :
    Calls Try.prog 91 #[.slice A1 n c1] w1 (Nm (wrap64 (dm (mfn ls) (List.range n))) W) := by
  have HK := @Lib.hid _ (fun v w' e b => @nm_mk v (wrap64 (dm (mfn ls) (List.range n))) W w' e b)
  have hE0 : Hid (Eu ls n 0 1 1 (wrap64 (dm (mfn ls) (List.range n)))) := Lib.hid (eu_start hn hr hz)
  have hn0 : (0 : Int) ≤ (n : Int) := Int.natCast_nonneg _
  generalize wrap64 (dm (mfn ls) (List.range n)) = D at *
  have hs0 : Hid (∀ T, ES W n w1.heap.size A1 c1 ls (w1.alloc (.cells #[.slice A1 n c1] T))) := Lib.hid fun T => by
    have hb2 : Below w1.heap.size w1 (w1.alloc (.cells #[.slice A1 n c1] T)) := below_box w1 _
    exact ⟨ho.call hb2, below_call hb hb2, by go_simp, by simp, hb.size⟩
  clear hn hr hz ho hb
  have hE := Try.call134
  go_enter Try.func91, Try.ntmps91
  go_wp2_with fail
  go_loopw [4, 10] (fun u5 u16 wr => ∃ (τ : Nat) (ms : List (List Int)) (s : Int), τ ≤ n ∧ u16 = .int .i64 τ ∧ u5 = .int .i64 s ∧ Eu ms n τ (τ + 1) s D ∧ ES W n w1.heap.size A1 c1 ms wr) (fun _ u16 _ => n - (intOf u16).toNat)
  case atStart => exact ⟨0, ls, 1, Nat.zero_le _, rfl, rfl, hE0.out, hs0.out _⟩
  case round =>
    clear hs0 hE0
    obtain ⟨τ, ms, s, hτ, rfl, rfl, he0, hs1⟩ := hrel
    have he := Lib.hid he0
    have hs := Lib.hid hs1
    clear he0 hs1
    have hτ0 : (0 : Int) ≤ (τ : Int) := Int.natCast_nonneg _
    by_cases hτn : τ < n
    · have hτ1 : (τ : Int) < (n : Int) := by omega
      have hd : decide ((τ : Int) < (n : Int)) = true := decide_eq_true hτ1
      obtain ⟨g, rfl, -⟩ := hs.out.at' he.out.row hτn
      go_wp2_with fail
      go_loopw [4, 6] (fun u5 u7 wq => ∃ (ρ : Nat) (ms : List (List Int)) (s : Int), τ < ρ ∧ ρ ≤ n ∧ u7 = .int .i64 ρ ∧ u5 = .int .i64 s ∧ Eu ms n τ ρ s D ∧ ES W n w1.heap.size (some ⟨g, 0, none⟩) c1 ms wq) (fun _ u7 _ => n - (intOf u7).toNat)
      case atStart => exact ⟨τ + 1, ms, s, by omega, by omega, by go_num, rfl, he.out, hs.out⟩
      case round =>
        clear he hs
        obtain ⟨ρ, ms, s, hρ, hρ1, rfl, rfl, he0, hs1⟩ := hrel
        have he := Lib.hid he0
        have hs := Lib.hid hs1
        have hbx := hs1.2.2.1
        clear he0 hs1
        have hρ0 : (0 : Int) ≤ (ρ : Int) := Int.natCast_nonneg _
        by_cases hρn : ρ < n
        · have hρ2 : (ρ : Int) < (n : Int) := by omega
          have hd2 : decide ((ρ : Int) < (n : Int)) = true := decide_eq_true hρ2
          go_wp2_with fail
          clear hbx
          go_loopw [4] (fun u5 wv => ∃ (ms : List (List Int)) (s : Int), u5 = .int .i64 s ∧ Eu ms n τ ρ s D ∧ ES W n w1.heap.size (some ⟨g, 0, none⟩) c1 ms wv) (fun _ wv => entN g ρ τ wv)
          case atStart => exact ⟨ms, s, rfl, he.out, hs.out⟩
          case round =>
            clear he hs
            obtain ⟨ms, s, rfl, he0, hs1⟩ := hrel
            have he := Lib.hid he0
            have hs := Lib.hid hs1
            have hbx := hs1.2.2.1
            obtain ⟨g', eg, lρ, q2, c2, m2, l2, h2, z2⟩ := hs1.at' he0.row hρn
            cases eg
            obtain ⟨e2, i2⟩ := z2 τ hτn
            obtain ⟨g', eg, lτ, q1, c3, m1, l1, h1, z1⟩ := hs1.at' he0.row hτn
            cases eg
            obtain ⟨e1, i1⟩ := z1 τ hτn
            have r2 := he0.rng lρ (List.mem_of_getElem? m2) _ i2
            have r1 := he0.rng lτ (List.mem_of_getElem? m1) _ i1
            have HM := Lib.hid (ent_is h2 e2)
            clear z1 z2 i1 i2
            by_cases hz : mfn ms ρ τ = 0
            · have he1 := Lib.hid (he0.next hz)
              have hzz : (mfn ms ρ τ != 0) = false := by rw [hz]; rfl
              clear he0 hs1 m1 m2
              generalize mfn ms ρ τ = zb at *
              generalize mfn ms τ τ = za at *
              go_wp2_with fail
              go_roundw
              case rel => exact ⟨ρ + 1, ms, s, by omega, by omega, by go_num, rfl, he1.out, hs.out⟩
              case measure => simp [intOf]; omega
            · have hzz : (mfn ms ρ τ != 0) = true := by rw [bne_iff_ne]; exact hz
              have HA3 := Lib.hid (fun w3 zt hzt ho hk hc => @eu_round W wr w3 n w1.heap.size c1 g τ ρ q1 q2 c2 c3 ms lτ lρ s D zt he0 hs1 hρ hρn m1 m2 h1 h2 hz hzt ho hk hc)
              have HAd := Lib.hid (fun z => addRow_any W.heap.size w1.heap.size g c1 n w1.heap.size ms τ ρ z lτ lρ wr.drew hs.out.dr.1 hbx (.inr (Nat.le_refl _)) hs.out.2.2.2.1 h16 m1 m2 (by omega) l1 l2)
              have hzn : mfn ms ρ τ ≠ 0 := hz
              clear he0 hs1 hz
              have h2d : wr.drew.cell? ⟨g, ρ, none⟩ = some (.slice (some ⟨q2, 0, none⟩) n c2) := h2
              have h1d : wr.drew.cell? ⟨g, τ, none⟩ = some (.slice (some ⟨q1, 0, none⟩) n c3) := h1
              have e1d : wr.drew.cell? ⟨q1, τ, none⟩ = some (.int .i64 (mfn ms τ τ)) := e1
              go_wp2_with fail
              try simp only [List.cons_append, List.nil_append, List.append_eq]
              refine wp_region_held_drew (S := (fun w' => w'.cell? ⟨w1.heap.size, 0, none⟩ = some (.slice (some ⟨g, 0, none⟩) n c1) ∧ w'.cell? ⟨g, τ, none⟩ = some (.slice (some ⟨q1, 0, none⟩) n c3) ∧ w'.cell? ⟨g, ρ, none⟩ = some (.slice (some ⟨q2, 0, none⟩) n c2) ∧ w'.cell? ⟨q2, τ, none⟩ = some (.int .i64 (mfn ms ρ τ)))) (by kernel_rfl) ?_ (fun hHeld0 => ?_)
              · (try dsimp only); go_keep
              refine wpAnyH_take (i := 0) (oi := { dst := some 29, op := Go.Op.move (Go.Operand.tmp 3), type := 108, pos := "l11_det.go:61", after := #[], guard := none }) (v := ?_) rfl (by kernel_rfl) (by kernel_rfl) (by kernel_rfl) (fun _ _ _ h => h) (Or.inl ⟨by rfl, ?_⟩) (by assumption) ?_
              rotate_left
              · (intro w hSw; (try dsimp only at hSw); go_simp; try with_reducible rfl)
              try simp only [Act.put, List.setIfInBounds_toArray, List.set_cons_zero, List.set_cons_succ]
              refine wpAnyH_take (i := 1) (oi := { dst := some 30, op := Go.Op.move (Go.Operand.tmp 5), type := 3, pos := "l11_det.go:61", after := #[], guard := none }) (v := ?_) rfl (by kernel_rfl) (by kernel_rfl) (by kernel_rfl) (fun _ _ _ h => h) (Or.inl ⟨by rfl, ?_⟩) (by assumption) ?_
              rotate_left
              · (intro w hSw; (try dsimp only at hSw); go_simp; try with_reducible rfl)
              try simp only [Act.put, List.setIfInBounds_toArray, List.set_cons_zero, List.set_cons_succ]
              refine wpAnyH_take (i := 2) (oi := { dst := some 31, op := Go.Op.move (Go.Operand.tmp 6), type := 3, pos := "l11_det.go:61", after := #[], guard := none }) (v := ?_) rfl (by kernel_rfl) (by kernel_rfl) (by kernel_rfl) (fun _ _ _ h => h) (Or.inl ⟨by rfl, ?_⟩) (by assumption) ?_
              rotate_left
              · (intro w hSw; (try dsimp only at hSw); go_simp; try with_reducible rfl)
              try simp only [Act.put, List.setIfInBounds_toArray, List.set_cons_zero, List.set_cons_succ]
              refine wpAnyH_take (i := 3) (oi := { dst := some 32, op := Go.Op.load 38 (Go.Operand.tmp 1), type := 38, pos := "l11_det.go:61", after := #[], guard := none }) (v := ?_) rfl (by kernel_rfl) (by kernel_rfl) (by kernel_rfl) (fun _ _ _ h => h) (Or.inl ⟨by rfl, ?_⟩) (by assumption) ?_
              rotate_left
              · (intro w hSw; (try dsimp only at hSw); go_simp; try with_reducible rfl)
              try simp only [Act.put, List.setIfInBounds_toArray, List.set_cons_zero, List.set_cons_succ]
              refine wpAnyH_take (i := 4) (oi := { dst := some 33, op := Go.Op.move (Go.Operand.tmp 5), type := 3, pos := "l11_det.go:61", after := #[], guard := none }) (v := ?_) rfl (by kernel_rfl) (by kernel_rfl) (by kernel_rfl) (fun _ _ _ h => h) (Or.inl ⟨by rfl, ?_⟩) (by assumption) ?_
              rotate_left
              · (intro w hSw; (try dsimp only at hSw); go_simp; try with_reducible rfl)
              try simp only [Act.put, List.setIfInBounds_toArray, List.set_cons_zero, List.set_cons_succ]
              refine wpAnyH_take (i := 5) (oi := { dst := some 34, op := Go.Op.indexAddr 38 (Go.Operand.tmp 32) (Go.Operand.tmp 33), type := 0, pos := "l11_det.go:61", after := #[{ on := 3, ground := Go.Ground.data }, { on := 4, ground := Go.Ground.data }], guard := none }) (v := ?_) rfl (by kernel_rfl) (by kernel_rfl) (by kernel_rfl) (fun _ _ _ h => h) (Or.inl ⟨by rfl, ?_⟩) (by assumption) ?_
              rotate_left
              · (intro w hSw; (try dsimp only at hSw); go_simp; try with_reducible rfl)
              try simp only [Act.put, List.setIfInBounds_toArray, List.set_cons_zero, List.set_cons_succ]
              refine wpAnyH_take (i := 6) (oi := { dst := some 35, op := Go.Op.load 34 (Go.Operand.tmp 34), type := 34, pos := "l11_det.go:61", after := #[{ on := 5, ground := Go.Ground.data }], guard := none }) (v := ?_) rfl (by kernel_rfl) (by kernel_rfl) (by kernel_rfl) (fun _ _ _ h => h) (Or.inl ⟨by rfl, ?_⟩) (by assumption) ?_
              rotate_left
              · (intro w hSw; (try dsimp only at hSw); go_simp; try with_reducible rfl)
              try simp only [Act.put, List.setIfInBounds_toArray, List.set_cons_zero, List.set_cons_succ]
              refine wpAnyH_take (i := 7) (oi := { dst := some 36, op := Go.Op.move (Go.Operand.tmp 5), type := 3, pos := "l11_det.go:61", after := #[], guard := none }) (v := ?_) rfl (by kernel_rfl) (by kernel_rfl) (by kernel_rfl) (fun _ _ _ h => h) (Or.inl ⟨by rfl, ?_⟩) (by assumption) ?_
              rotate_left
              · (intro w hSw; (try dsimp only at hSw); go_simp; try with_reducible rfl)
              try simp only [Act.put, List.setIfInBounds_toArray, List.set_cons_zero, List.set_cons_succ]
              refine wpAnyH_take (i := 8) (oi := { dst := some 37, op := Go.Op.indexAddr 34 (Go.Operand.tmp 35) (Go.Operand.tmp 36), type := 0, pos := "l11_det.go:61", after := #[{ on := 6, ground := Go.Ground.data }, { on := 7, ground := Go.Ground.data }], guard := none }) (v := ?_) rfl (by kernel_rfl) (by kernel_rfl) (by kernel_rfl) (fun _ _ _ h => h) (Or.inl ⟨by rfl, ?_⟩) (by assumption) ?_
              rotate_left
              · (intro w hSw; (try dsimp only at hSw); go_simp; try with_reducible rfl)
              try simp only [Act.put, List.setIfInBounds_toArray, List.set_cons_zero, List.set_cons_succ]
              refine wpAnyH_take (i := 10) (oi := { dst := some 39, op := Go.Op.load 38 (Go.Operand.tmp 1), type := 38, pos := "l11_det.go:61", after := #[], guard := none }) (v := ?_) rfl (by kernel_rfl) (by kernel_rfl) (by kernel_rfl) (fun _ _ _ h => h) (Or.inl ⟨by rfl, ?_⟩) (by assumption) ?_
              rotate_left
              · (intro w hSw; (try dsimp only at hSw); go_simp; try with_reducible rfl)
              try simp only [Act.put, List.setIfInBounds_toArray, List.set_cons_zero, List.set_cons_succ]
              refine wpAnyH_take (i := 11) (oi := { dst := some 40, op := Go.Op.move (Go.Operand.tmp 6), type := 3, pos := "l11_det.go:61", after := #[], guard := none }) (v := ?_) rfl (by kernel_rfl) (by kernel_rfl) (by kernel_rfl) (fun _ _ _ h => h) (Or.inl ⟨by rfl, ?_⟩) (by assumption) ?_
              rotate_left
              · (intro w hSw; (try dsimp only at hSw); go_simp; try with_reducible rfl)
              try simp only [Act.put, List.setIfInBounds_toArray, List.set_cons_zero, List.set_cons_succ]
              refine wpAnyH_take (i := 12) (oi := { dst := some 41, op := Go.Op.indexAddr 38 (Go.Operand.tmp 39) (Go.Operand.tmp 40), type := 0, pos := "l11_det.go:61", after := #[{ on := 10, ground := Go.Ground.data }, { on := 11, ground := Go.Ground.data }], guard := none }) (v := ?_) rfl (by kernel_rfl) (by kernel_rfl) (by kernel_rfl) (fun _ _ _ h => h) (Or.inl ⟨by rfl, ?_⟩) (by assumption) ?_
              rotate_left
              · (intro w hSw; (try dsimp only at hSw); go_simp; try with_reducible rfl)
              try simp only [Act.put, List.setIfInBounds_toArray, List.set_cons_zero, List.set_cons_succ]
              refine wpAnyH_take (i := 13) (oi := { dst := some 42, op := Go.Op.load 34 (Go.Operand.tmp 41), type := 34, pos := "l11_det.go:61", after := #[{ on := 12, ground := Go.Ground.data }], guard := none }) (v := ?_) rfl (by kernel_rfl) (by kernel_rfl) (by kernel_rfl) (fun _ _ _ h => h) (Or.inl ⟨by rfl, ?_⟩) (by assumption) ?_
              rotate_left
              · (intro w hSw; (try dsimp only at hSw); go_simp; try with_reducible rfl)
              try simp only [Act.put, List.setIfInBounds_toArray, List.set_cons_zero, List.set_cons_succ]
              refine wpAnyH_take (i := 14) (oi := { dst := some 43, op := Go.Op.move (Go.Operand.tmp 5), type := 3, pos := "l11_det.go:61", after := #[], guard := none }) (v := ?_) rfl (by kernel_rfl) (by kernel_rfl) (by kernel_rfl) (fun _ _ _ h => h) (Or.inl ⟨by rfl, ?_⟩) (by assumption) ?_
              rotate_left
              · (intro w hSw; (try dsimp only at hSw); go_simp; try with_reducible rfl)
              try simp only [Act.put, List.setIfInBounds_toArray, List.set_cons_zero, List.set_cons_succ]
              refine wpAnyH_take (i := 15) (oi := { dst := some 44, op := Go.Op.indexAddr 34 (Go.Operand.tmp 42) (Go.Operand.tmp 43), type := 0, pos := "l11_det.go:61", after := #[{ on := 13, ground := Go.Ground.data }, { on := 14, ground := Go.Ground.data }], guard := none }) (v := ?_) rfl (by kernel_rfl) (by kernel_rfl) (by kernel_rfl) (fun _ _ _ h => h) (Or.inl ⟨by rfl, ?_⟩) (by assumption) ?_
              rotate_left
              · (intro w hSw; (try dsimp only at hSw); go_simp; try with_reducible rfl)
              try simp only [Act.put, List.setIfInBounds_toArray, List.set_cons_zero, List.set_cons_succ]
              refine wpAnyH_take (i := 16) (oi := { dst := some 45, op := Go.Op.load 3 (Go.Operand.tmp 44), type := 3, pos := "l11_det.go:61", after := #[{ on := 15, ground := Go.Ground.data }], guard := none }) (v := ?_) rfl (by kernel_rfl) (by kernel_rfl) (by kernel_rfl) (fun _ _ _ h => h) (Or.inl ⟨by rfl, ?_⟩) (by assumption) ?_
              rotate_left
              · (intro w hSw; (try dsimp only at hSw); go_simp; try with_reducible rfl)
              try simp only [Act.put, List.setIfInBounds_toArray, List.set_cons_zero, List.set_cons_succ]
              refine wpAnyH_ready (rs := [9]) (by kernel_rfl) (by simp) ?_
              refine AllReadyH.cons (o := { dst := some 38, op := Go.Op.load 3 (Go.Operand.tmp 37), type := 3, pos := "l11_det.go:61", after := #[{ on := 8, ground := Go.Ground.data }], guard := none }) rfl (fun K9 hK9 => ?_) AllReadyH.nil
              go_simp
              refine hK9.out _ _ ?_ (fun hHeld1 => ?_)
              · (try dsimp only); go_keep
              clear hK9 K9 hHeld0
              try simp only [Act.put, List.setIfInBounds_toArray, List.set_cons_zero, List.set_cons_succ]
              refine wpAnyH_take (i := 17) (oi := { dst := some 46, op := Go.Op.binOp Go.BinOp.quo 3 (Go.Operand.tmp 38) (Go.Operand.tmp 45) 3, type := 3, pos := "l11_det.go:61", after := #[{ on := 9, ground := Go.Ground.data }, { on := 16, ground := Go.Ground.data }], guard := none }) (v := ?_) rfl (by kernel_rfl) (by kernel_rfl) (by kernel_rfl) (fun _ _ _ h => h) (Or.inl ⟨by rfl, ?_⟩) (by assumption) ?_
              rotate_left
              · (intro w hSw; (try dsimp only at hSw); go_simp; try with_reducible rfl)
              try simp only [Act.put, List.setIfInBounds_toArray, List.set_cons_zero, List.set_cons_succ]
              refine wpAnyH_take (i := 18) (oi := { dst := some 47, op := Go.Op.unOp Go.UnOp.neg 3 (Go.Operand.tmp 46), type := 3, pos := "l11_det.go:61", after := #[{ on := 17, ground := Go.Ground.data }], guard := none }) (v := ?_) rfl (by kernel_rfl) (by kernel_rfl) (by kernel_rfl) (fun _ _ _ h => h) (Or.inl ⟨by rfl, ?_⟩) (by assumption) ?_
              rotate_left
              · (intro w hSw; (try dsimp only at hSw); go_simp; try with_reducible rfl)
              try simp only [Act.put, List.setIfInBounds_toArray, List.set_cons_zero, List.set_cons_succ]
              refine wpAnyH_ready (rs := [19]) (by kernel_rfl) (by simp) ?_
              refine AllReadyH.cons (o := { dst := some 48, op := Go.Op.call { callee := Go.Callee.value (Go.Operand.tmp 29), args := #[Go.Operand.tmp 30, Go.Operand.tmp 31, Go.Operand.tmp 47], argTypes := #[3, 3, 3] }, type := 0, pos := "l11_det.go:61", after := #[{ on := 0, ground := Go.Ground.data }, { on := 1, ground := Go.Ground.data }, { on := 2, ground := Go.Ground.data }, { on := 18, ground := Go.Ground.data }], guard := none }) rfl (fun K19 hK19 => ?_) AllReadyH.nil
              go_simp
              (refine (HAd.out _).mono ?_; rintro e w3 ⟨rfl, ho3, hk3, hc3⟩; obtain ⟨hS, hF, hEu, hEs⟩ := HA3.out w3 _ rfl ho3 hk3 hc3; have hcs3 := Lib.hid hS; have hF3 := Lib.hid hF; have hEu3 := Lib.hid hEu; have hEs3 := Lib.hid hEs; clear ho3 hk3 hc3 hS hF hEu hEs)
              go_wp2_with fail
              refine hK19.out _ _ ?_ (fun hHeld2 => ?_)
              · (try dsimp only); exact hcs3.out
              clear hK19 K19 hHeld1
              try simp only [Act.put, List.setIfInBounds_toArray, List.set_cons_zero, List.set_cons_succ]
              refine wpAnyH_done (by kernel_rfl) ?_ _
              obtain ⟨x1, x2, x3, -⟩ := hcs3.out
              obtain ⟨y1, y2, hgR⟩ := hF3.out
              have x1d : w3.drew.cell? ⟨w1.heap.size, 0, none⟩ = some (.slice (some ⟨g, 0, none⟩) n c1) := x1
              have x2d : w3.drew.cell? ⟨g, τ, none⟩ = some (.slice (some ⟨q1, 0, none⟩) n c3) := x2
              have x3d : w3.drew.cell? ⟨g, ρ, none⟩ = some (.slice (some ⟨q2, 0, none⟩) n c2) := x3
              have y1d : w3.drew.frozen? ⟨g, τ, none⟩ = false := y1
              have y2d : w3.drew.frozen? ⟨g, ρ, none⟩ = false := y2
              have hne : τ ≠ ρ := by omega
              have hgR' : w1.heap.size ≠ g := fun e => hgR e.symm
              clear h1 h2 h1d h2d e1d e1 e2 hbx
              go_wp2_with fail
              try simp only [List.cons_append, List.nil_append, List.append_eq]
              refine wp_region_held_drew (S := (fun w' => w'.cell? ⟨w1.heap.size, 0, none⟩ = some (.slice (some ⟨g, 0, none⟩) n c1))) (by kernel_rfl) ?_ (fun hHeld0 => ?_)
              · (try dsimp only); go_keep
              refine wpAnyH_take (i := 0) (oi := { dst := some 49, op := Go.Op.load 38 (Go.Operand.tmp 1), type := 38, pos := "l11_det.go:62", after := #[], guard := none }) (v := ?_) rfl (by kernel_rfl) (by kernel_rfl) (by kernel_rfl) (fun _ _ _ h => h) (Or.inl ⟨by rfl, ?_⟩) (by assumption) ?_
              rotate_left
              · (intro w hSw; (try dsimp only at hSw); go_simp; try with_reducible rfl)
              try simp only [Act.put, List.setIfInBounds_toArray, List.set_cons_zero, List.set_cons_succ]
              refine wpAnyH_take (i := 1) (oi := { dst := some 50, op := Go.Op.move (Go.Operand.tmp 5), type := 3, pos := "l11_det.go:62", after := #[], guard := none }) (v := ?_) rfl (by kernel_rfl) (by kernel_rfl) (by kernel_rfl) (fun _ _ _ h => h) (Or.inl ⟨by rfl, ?_⟩) (by assumption) ?_
              rotate_left
              · (intro w hSw; (try dsimp only at hSw); go_simp; try with_reducible rfl)
              try simp only [Act.put, List.setIfInBounds_toArray, List.set_cons_zero, List.set_cons_succ]
              refine wpAnyH_take (i := 2) (oi := { dst := some 51, op := Go.Op.load 38 (Go.Operand.tmp 1), type := 38, pos := "l11_det.go:62", after := #[{ on := 13, ground := Go.Ground.gcOnly Go.Departure.lateStores }], guard := none }) (v := ?_) rfl (by kernel_rfl) (by kernel_rfl) (by kernel_rfl) (fun _ _ _ h => h) (Or.inl ⟨by rfl, ?_⟩) (by assumption) ?_
              rotate_left
              · (intro w hSw; (try dsimp only at hSw); go_simp; try with_reducible rfl)
              try simp only [Act.put, List.setIfInBounds_toArray, List.set_cons_zero, List.set_cons_succ]
              refine wpAnyH_take (i := 3) (oi := { dst := some 52, op := Go.Op.move (Go.Operand.tmp 6), type := 3, pos := "l11_det.go:62", after := #[{ on := 13, ground := Go.Ground.gcOnly Go.Departure.lateStores }], guard := none }) (v := ?_) rfl (by kernel_rfl) (by kernel_rfl) (by kernel_rfl) (fun _ _ _ h => h) (Or.inl ⟨by rfl, ?_⟩) (by assumption) ?_
              rotate_left
              · (intro w hSw; (try dsimp only at hSw); go_simp; try with_reducible rfl)
              try simp only [Act.put, List.setIfInBounds_toArray, List.set_cons_zero, List.set_cons_succ]
              refine wpAnyH_take (i := 4) (oi := { dst := some 53, op := Go.Op.load 38 (Go.Operand.tmp 1), type := 38, pos := "l11_det.go:62", after := #[], guard := none }) (v := ?_) rfl (by kernel_rfl) (by kernel_rfl) (by kernel_rfl) (fun _ _ _ h => h) (Or.inl ⟨by rfl, ?_⟩) (by assumption) ?_
              rotate_left
              · (intro w hSw; (try dsimp only at hSw); go_simp; try with_reducible rfl)
              try simp only [Act.put, List.setIfInBounds_toArray, List.set_cons_zero, List.set_cons_succ]
              refine wpAnyH_take (i := 5) (oi := { dst := some 54, op := Go.Op.move (Go.Operand.tmp 6), type := 3, pos := "l11_det.go:62", after := #[], guard := none }) (v := ?_) rfl (by kernel_rfl) (by kernel_rfl) (by kernel_rfl) (fun _ _ _ h => h) (Or.inl ⟨by rfl, ?_⟩) (by assumption) ?_
              rotate_left
              · (intro w hSw; (try dsimp only at hSw); go_simp; try with_reducible rfl)
              try simp only [Act.put, List.setIfInBounds_toArray, List.set_cons_zero, List.set_cons_succ]
              refine wpAnyH_take (i := 6) (oi := { dst := some 55, op := Go.Op.indexAddr 38 (Go.Operand.tmp 53) (Go.Operand.tmp 54), type := 0, pos := "l11_det.go:62", after := #[{ on := 4, ground := Go.Ground.data }, { on := 5, ground := Go.Ground.data }], guard := none }) (v := ?_) rfl (by kernel_rfl) (by kernel_rfl) (by kernel_rfl) (fun _ _ _ h => h) (Or.inl ⟨by rfl, ?_⟩) (by assumption) ?_
              rotate_left
              · (intro w hSw; (try dsimp only at hSw); go_simp; try with_reducible rfl)
              try simp only [Act.put, List.setIfInBounds_toArray, List.set_cons_zero, List.set_cons_succ]
              refine wpAnyH_take (i := 8) (oi := { dst := some 57, op := Go.Op.load 38 (Go.Operand.tmp 1), type := 38, pos := "l11_det.go:62", after := #[], guard := none }) (v := ?_) rfl (by kernel_rfl) (by kernel_rfl) (by kernel_rfl) (fun _ _ _ h => h) (Or.inl ⟨by rfl, ?_⟩) (by assumption) ?_
              rotate_left
              · (intro w hSw; (try dsimp only at hSw); go_simp; try with_reducible rfl)
              try simp only [Act.put, List.setIfInBounds_toArray, List.set_cons_zero, List.set_cons_succ]
              refine wpAnyH_take (i := 9) (oi := { dst := some 58, op := Go.Op.move (Go.Operand.tmp 5), type := 3, pos := "l11_det.go:62", after := #[], guard := none }) (v := ?_) rfl (by kernel_rfl) (by kernel_rfl) (by kernel_rfl) (fun _ _ _ h => h) (Or.inl ⟨by rfl, ?_⟩) (by assumption) ?_
              rotate_left
              · (intro w hSw; (try dsimp only at hSw); go_simp; try with_reducible rfl)
              try simp only [Act.put, List.setIfInBounds_toArray, List.set_cons_zero, List.set_cons_succ]
              refine wpAnyH_take (i := 10) (oi := { dst := some 59, op := Go.Op.indexAddr 38 (Go.Operand.tmp 57) (Go.Operand.tmp 58), type := 0, pos := "l11_det.go:62", after := #[{ on := 8, ground := Go.Ground.data }, { on := 9, ground := Go.Ground.data }], guard := none }) (v := ?_) rfl (by kernel_rfl) (by kernel_rfl) (by kernel_rfl) (fun _ _ _ h => h) (Or.inl ⟨by rfl, ?_⟩) (by assumption) ?_
              rotate_left
              · (intro w hSw; (try dsimp only at hSw); go_simp; try with_reducible rfl)
              try simp only [Act.put, List.setIfInBounds_toArray, List.set_cons_zero, List.set_cons_succ]
              refine wpAnyH_ready (rs := [7, 11]) (by kernel_rfl) (by simp) ?_
              refine (AllReadyH.cons (o := { dst := some 56, op := Go.Op.load 34 (Go.Operand.tmp 55), type := 34, pos := "l11_det.go:62", after := #[{ on := 6, ground := Go.Ground.data }], guard := none }) rfl (fun K7 hK7 => ?_) (AllReadyH.cons (o := { dst := some 60, op := Go.Op.load 34 (Go.Operand.tmp 59), type := 34, pos := "l11_det.go:62", after := #[{ on := 10, ground := Go.Ground.data }], guard := none }) rfl (fun K11 hK11 => ?_) AllReadyH.nil))
              go_simp
              refine hK7.out _ _ ?_ (fun hHeld1 => ?_)
              · (try dsimp only); go_keep
              clear hK7 K7 hHeld0
              try simp only [Act.put, List.setIfInBounds_toArray, List.set_cons_zero, List.set_cons_succ]
              refine wpAnyH_ready (rs := [11]) (by kernel_rfl) (by simp) ?_
              refine AllReadyH.cons (o := { dst := some 60, op := Go.Op.load 34 (Go.Operand.tmp 59), type := 34, pos := "l11_det.go:62", after := #[{ on := 10, ground := Go.Ground.data }], guard := none }) rfl (fun K11 hK11 => ?_) AllReadyH.nil
              go_simp
              refine hK11.out _ _ ?_ (fun hHeld2 => ?_)
              · (try dsimp only); go_keep
              clear hK11 K11 hHeld1
              try simp only [Act.put, List.setIfInBounds_toArray, List.set_cons_zero, List.set_cons_succ]
              refine wpAnyH_take (i := 12) (oi := { dst := some 61, op := Go.Op.indexAddr 38 (Go.Operand.tmp 49) (Go.Operand.tmp 50), type := 0, pos := "l11_det.go:62", after := #[{ on := 0, ground := Go.Ground.data }, { on := 1, ground := Go.Ground.data }, { on := 0, ground := Go.Ground.phase }, { on := 1, ground := Go.Ground.phase }, { on := 2, ground := Go.Ground.textOnly Go.Departure.lateStores }, { on := 3, ground := Go.Ground.textOnly Go.Departure.lateStores }, { on := 4, ground := Go.Ground.phase }, { on := 5, ground := Go.Ground.phase }, { on := 6, ground := Go.Ground.phase }, { on := 7, ground := Go.Ground.phase }, { on := 8, ground := Go.Ground.textOnly Go.Departure.lateStores }, { on := 9, ground := Go.Ground.textOnly Go.Departure.lateStores }, { on := 10, ground := Go.Ground.textOnly Go.Departure.lateStoresUnsure }, { on := 11, ground := Go.Ground.phase }], guard := none }) (v := ?_) rfl (by kernel_rfl) (by kernel_rfl) (by kernel_rfl) (fun _ _ _ h => h) (Or.inl ⟨by rfl, ?_⟩) (by assumption) ?_
              rotate_left
              · (intro w hSw; (try dsimp only at hSw); go_simp; try with_reducible rfl)
              try simp only [Act.put, List.setIfInBounds_toArray, List.set_cons_zero, List.set_cons_succ]
              refine wpAnyH_ready (rs := [13]) (by kernel_rfl) (by simp) ?_
              refine AllReadyH.cons (o := { dst := none, op := Go.Op.store 34 (Go.Operand.tmp 61) (Go.Operand.tmp 56), type := 0, pos := "l11_det.go:62", after := #[{ on := 12, ground := Go.Ground.data }, { on := 7, ground := Go.Ground.data }, { on := 0, ground := Go.Ground.phase }, { on := 1, ground := Go.Ground.phase }, { on := 2, ground := Go.Ground.textOnly Go.Departure.lateStores }, { on := 3, ground := Go.Ground.textOnly Go.Departure.lateStores }, { on := 4, ground := Go.Ground.phase }, { on := 5, ground := Go.Ground.phase }, { on := 6, ground := Go.Ground.phase }, { on := 7, ground := Go.Ground.phase }, { on := 8, ground := Go.Ground.textOnly Go.Departure.lateStores }, { on := 9, ground := Go.Ground.textOnly Go.Departure.lateStores }, { on := 10, ground := Go.Ground.textOnly Go.Departure.lateStoresUnsure }, { on := 11, ground := Go.Ground.phase }], guard := none }) rfl (fun K13 hK13 => ?_) AllReadyH.nil
              go_simp
              refine hK13.out _ _ ?_ (fun hHeld3 => ?_)
              · (try dsimp only); go_keep
              clear hK13 K13 hHeld2
              try simp only [Act.put, List.setIfInBounds_toArray, List.set_cons_zero, List.set_cons_succ]
              refine wpAnyH_take (i := 14) (oi := { dst := some 62, op := Go.Op.indexAddr 38 (Go.Operand.tmp 51) (Go.Operand.tmp 52), type := 0, pos := "l11_det.go:62", after := #[{ on := 2, ground := Go.Ground.data }, { on := 3, ground := Go.Ground.data }, { on := 0, ground := Go.Ground.phase }, { on := 1, ground := Go.Ground.phase }, { on := 2, ground := Go.Ground.phase }, { on := 3, ground := Go.Ground.phase }, { on := 4, ground := Go.Ground.phase }, { on := 5, ground := Go.Ground.phase }, { on := 6, ground := Go.Ground.phase }, { on := 7, ground := Go.Ground.phase }, { on := 8, ground := Go.Ground.phase }, { on := 9, ground := Go.Ground.phase }, { on := 10, ground := Go.Ground.phase }, { on := 11, ground := Go.Ground.phase }, { on := 12, ground := Go.Ground.phase }, { on := 13, ground := Go.Ground.phase }], guard := none }) (v := ?_) rfl (by kernel_rfl) (by kernel_rfl) (by kernel_rfl) (fun _ _ _ h => h) (Or.inl ⟨by rfl, ?_⟩) (by assumption) ?_
              rotate_left
              · (intro w hSw; (try dsimp only at hSw); go_simp; try with_reducible rfl)
              try simp only [Act.put, List.setIfInBounds_toArray, List.set_cons_zero, List.set_cons_succ]
              refine wpAnyH_ready (rs := [15]) (by kernel_rfl) (by simp) ?_
              refine AllReadyH.cons (o := { dst := none, op := Go.Op.store 34 (Go.Operand.tmp 62) (Go.Operand.tmp 60), type := 0, pos := "l11_det.go:62", after := #[{ on := 14, ground := Go.Ground.data }, { on := 11, ground := Go.Ground.data }, { on := 13, ground := Go.Ground.chain }, { on := 0, ground := Go.Ground.phase }, { on := 1, ground := Go.Ground.phase }, { on := 2, ground := Go.Ground.phase }, { on := 3, ground := Go.Ground.phase }, { on := 4, ground := Go.Ground.phase }, { on := 5, ground := Go.Ground.phase }, { on := 6, ground := Go.Ground.phase }, { on := 7, ground := Go.Ground.phase }, { on := 8, ground := Go.Ground.phase }, { on := 9, ground := Go.Ground.phase }, { on := 10, ground := Go.Ground.phase }, { on := 11, ground := Go.Ground.phase }, { on := 12, ground := Go.Ground.phase }, { on := 13, ground := Go.Ground.phase }], guard := none }) rfl (fun K15 hK15 => ?_) AllReadyH.nil
              go_simp
              refine hK15.out _ _ ?_ (fun hHeld4 => ?_)
              · (try dsimp only); go_keep
              clear hK15 K15 hHeld3
              try simp only [Act.put, List.setIfInBounds_toArray, List.set_cons_zero, List.set_cons_succ]
              refine wpAnyH_done (by kernel_rfl) ?_ _
              rotate_left
              go_simp
              refine hK11.out _ _ ?_ (fun hHeld1 => ?_)
              · (try dsimp only); go_keep
              clear hK11 K11 hHeld0
              try simp only [Act.put, List.setIfInBounds_toArray, List.set_cons_zero, List.set_cons_succ]
              refine wpAnyH_ready (rs := [7]) (by kernel_rfl) (by simp) ?_
              refine AllReadyH.cons (o := { dst := some 56, op := Go.Op.load 34 (Go.Operand.tmp 55), type := 34, pos := "l11_det.go:62", after := #[{ on := 6, ground := Go.Ground.data }], guard := none }) rfl (fun K7 hK7 => ?_) AllReadyH.nil
              go_simp
              refine hK7.out _ _ ?_ (fun hHeld2 => ?_)
              · (try dsimp only); go_keep
              clear hK7 K7 hHeld1
              try simp only [Act.put, List.setIfInBounds_toArray, List.set_cons_zero, List.set_cons_succ]
              refine wpAnyH_take (i := 12) (oi := { dst := some 61, op := Go.Op.indexAddr 38 (Go.Operand.tmp 49) (Go.Operand.tmp 50), type := 0, pos := "l11_det.go:62", after := #[{ on := 0, ground := Go.Ground.data }, { on := 1, ground := Go.Ground.data }, { on := 0, ground := Go.Ground.phase }, { on := 1, ground := Go.Ground.phase }, { on := 2, ground := Go.Ground.textOnly Go.Departure.lateStores }, { on := 3, ground := Go.Ground.textOnly Go.Departure.lateStores }, { on := 4, ground := Go.Ground.phase }, { on := 5, ground := Go.Ground.phase }, { on := 6, ground := Go.Ground.phase }, { on := 7, ground := Go.Ground.phase }, { on := 8, ground := Go.Ground.textOnly Go.Departure.lateStores }, { on := 9, ground := Go.Ground.textOnly Go.Departure.lateStores }, { on := 10, ground := Go.Ground.textOnly Go.Departure.lateStoresUnsure }, { on := 11, ground := Go.Ground.phase }], guard := none }) (v := ?_) rfl (by kernel_rfl) (by kernel_rfl) (by kernel_rfl) (fun _ _ _ h => h) (Or.inl ⟨by rfl, ?_⟩) (by assumption) ?_
              rotate_left
              · (intro w hSw; (try dsimp only at hSw); go_simp; try with_reducible rfl)
              try simp only [Act.put, List.setIfInBounds_toArray, List.set_cons_zero, List.set_cons_succ]
              refine wpAnyH_ready (rs := [13]) (by kernel_rfl) (by simp) ?_
              refine AllReadyH.cons (o := { dst := none, op := Go.Op.store 34 (Go.Operand.tmp 61) (Go.Operand.tmp 56), type := 0, pos := "l11_det.go:62", after := #[{ on := 12, ground := Go.Ground.data }, { on := 7, ground := Go.Ground.data }, { on := 0, ground := Go.Ground.phase }, { on := 1, ground := Go.Ground.phase }, { on := 2, ground := Go.Ground.textOnly Go.Departure.lateStores }, { on := 3, ground := Go.Ground.textOnly Go.Departure.lateStores }, { on := 4, ground := Go.Ground.phase }, { on := 5, ground := Go.Ground.phase }, { on := 6, ground := Go.Ground.phase }, { on := 7, ground := Go.Ground.phase }, { on := 8, ground := Go.Ground.textOnly Go.Departure.lateStores }, { on := 9, ground := Go.Ground.textOnly Go.Departure.lateStores }, { on := 10, ground := Go.Ground.textOnly Go.Departure.lateStoresUnsure }, { on := 11, ground := Go.Ground.phase }], guard := none }) rfl (fun K13 hK13 => ?_) AllReadyH.nil
              go_simp
              refine hK13.out _ _ ?_ (fun hHeld3 => ?_)
              · (try dsimp only); go_keep
              clear hK13 K13 hHeld2
              try simp only [Act.put, List.setIfInBounds_toArray, List.set_cons_zero, List.set_cons_succ]
              refine wpAnyH_take (i := 14) (oi := { dst := some 62, op := Go.Op.indexAddr 38 (Go.Operand.tmp 51) (Go.Operand.tmp 52), type := 0, pos := "l11_det.go:62", after := #[{ on := 2, ground := Go.Ground.data }, { on := 3, ground := Go.Ground.data }, { on := 0, ground := Go.Ground.phase }, { on := 1, ground := Go.Ground.phase }, { on := 2, ground := Go.Ground.phase }, { on := 3, ground := Go.Ground.phase }, { on := 4, ground := Go.Ground.phase }, { on := 5, ground := Go.Ground.phase }, { on := 6, ground := Go.Ground.phase }, { on := 7, ground := Go.Ground.phase }, { on := 8, ground := Go.Ground.phase }, { on := 9, ground := Go.Ground.phase }, { on := 10, ground := Go.Ground.phase }, { on := 11, ground := Go.Ground.phase }, { on := 12, ground := Go.Ground.phase }, { on := 13, ground := Go.Ground.phase }], guard := none }) (v := ?_) rfl (by kernel_rfl) (by kernel_rfl) (by kernel_rfl) (fun _ _ _ h => h) (Or.inl ⟨by rfl, ?_⟩) (by assumption) ?_
              rotate_left
              · (intro w hSw; (try dsimp only at hSw); go_simp; try with_reducible rfl)
              try simp only [Act.put, List.setIfInBounds_toArray, List.set_cons_zero, List.set_cons_succ]
              refine wpAnyH_ready (rs := [15]) (by kernel_rfl) (by simp) ?_
              refine AllReadyH.cons (o := { dst := none, op := Go.Op.store 34 (Go.Operand.tmp 62) (Go.Operand.tmp 60), type := 0, pos := "l11_det.go:62", after := #[{ on := 14, ground := Go.Ground.data }, { on := 11, ground := Go.Ground.data }, { on := 13, ground := Go.Ground.chain }, { on := 0, ground := Go.Ground.phase }, { on := 1, ground := Go.Ground.phase }, { on := 2, ground := Go.Ground.phase }, { on := 3, ground := Go.Ground.phase }, { on := 4, ground := Go.Ground.phase }, { on := 5, ground := Go.Ground.phase }, { on := 6, ground := Go.Ground.phase }, { on := 7, ground := Go.Ground.phase }, { on := 8, ground := Go.Ground.phase }, { on := 9, ground := Go.Ground.phase }, { on := 10, ground := Go.Ground.phase }, { on := 11, ground := Go.Ground.phase }, { on := 12, ground := Go.Ground.phase }, { on := 13, ground := Go.Ground.phase }], guard := none }) rfl (fun K15 hK15 => ?_) AllReadyH.nil
              go_simp
              refine hK15.out _ _ ?_ (fun hHeld4 => ?_)
              · (try dsimp only); go_keep
              clear hK15 K15 hHeld3
              try simp only [Act.put, List.setIfInBounds_toArray, List.set_cons_zero, List.set_cons_succ]
              refine wpAnyH_done (by kernel_rfl) ?_ _
              rotate_left
              all_goals have hfin := Lib.hid (hEs3.out _ rfl)
              all_goals go_wp2_with fail
              all_goals go_roundw
              all_goals first
                | exact ⟨_, wrap64 (-s), rfl, hEu3.out, hfin.out.1⟩
                | (rw [HM.out]; exact hfin.out.2)
        · obtain rfl : ρ = n := by omega
          have hd2 : decide ((ρ : Int) < (ρ : Int)) = false := by simp
          obtain ⟨g', eg, lτ, q1, c3, m1, l1, h1, z1⟩ := hs.out.at' he.out.row hτn
          cases eg
          obtain ⟨e1, i1⟩ := z1 τ hτn
          have he1 := Lib.hid he.out.turn
          clear z1 i1 m1 l1
          generalize mfn ms τ τ = za at *
          go_wp2_with fail
          go_roundw
          case rel => exact ⟨τ + 1, ms, _, by omega, by go_num, rfl, he1.out, hs.out⟩
          case measure => simp [intOf]; omega
    · obtain rfl : τ = n := by omega
      have hd : decide ((τ : Int) < (τ : Int)) = false := by simp
      have HE := Lib.hid he.out.done
      go_wp2_with fail
      go_ret
      exact HK.out _ _ HE.out hs.out.2.1

set_option maxRecDepth 100000 in
theorem determinantI_any (A : Option Addr) (n c : Nat) (ls : List (List Int)) (W : World) (hn : ls.length = n) (hm : n ≤ 1048576) (hl : ∀ l ∈ ls, l.length ≤ 1048576) (hi : MxIn W W.heap.size A ls) :
    Calls Try.prog 34 #[.slice A n c] W (Nm (deZ ls) W) := by
  have HQ := Lib.hid (squareOkI_any A n c ls W hn hm hl hi)
  by_cases hq : sqB ls = true
  · have HCo := Lib.hid (fun X (h : Below W.heap.size W X) => copyRows_any A n c ls X hn.symm hm hl ((hi.below h).more h.size))
    obtain ⟨q1, q2⟩ := sq_len hq
    have HK : Hid (∀ e X, Nm (wrap64 (dm (mfn ls) (List.range n))) W e X → Nm (deZ ls) W e X) := Lib.hid fun e X h => by
      unfold deZ
      rw [if_pos hq, hn]; exact h
    have HDt := Lib.hid (fun A1 c1 w1 ho hb => determinantOf_any A1 n c1 ls W w1 hn (by omega) (fun l h => by rw [(q2 l h).1, hn]) (fun l h z hz => by have := (q2 l h).2 z hz; omega) ho hb)
    have Hn := Lib.hid hn
    rw [hq] at HQ
    clear hn hm hl hi q1 q2 hq
    go_enter Try.func34, Try.ntmps34
    go_wp2_with fail
    refine HQ.out.mono ?_
    rintro e w0 ⟨rfl, hb⟩
    have hb0 := Lib.hid hb
    clear hb HQ
    go_wp2_with fail
    refine (HCo.out _ hb0.out).mono ?_
    rintro e w1 ⟨v, rfl, ho, hb⟩
    obtain ⟨A1, c1, rfl⟩ := ho.form
    have ho1 : Hid (MxOw w1 W.heap.size w1.heap.size (.slice A1 n c1) ls) := Lib.hid (by rw [← Hn.out]; exact ho.low hb0.out.size)
    have hb1 := Lib.hid (below_call hb0.out hb)
    rw [Hn.out]
    clear ho hb hb0 HCo
    go_wp2_with fail
    refine (HDt.out A1 c1 w1 ho1.out hb1.out).mono ?_
    intro e w2 h
    have hx := HK.out _ _ h
    obtain ⟨rfl, hb⟩ := h
    have HX := Lib.hid hx
    clear hx hb
    go_wp2_with fail
    go_ret
    exact HX.out
  · rw [show sqB ls = false by simpa using hq] at HQ
    have HK := @Lib.hid _ (fun v w' e b => @nm_mk v (deZ ls) W w' e b)
    have HE : Hid (0 = deZ ls) := Lib.hid (by unfold deZ; rw [if_neg hq])
    clear hn hm hl hi hq
    generalize deZ ls = D at *
    go_enter Try.func34, Try.ntmps34
    go_wp2_with fail
    refine HQ.out.mono ?_
    rintro e w0 ⟨rfl, hb⟩
    have hb0 := Lib.hid hb
    clear hb HQ
    go_wp2_with fail
    go_ret
    exact HK.out _ _ HE.out hb0.out
end Go.Proofs.Ythgnhamokikhkaa.detI
