/- The contract of the program's dividing of a room. -/
import Derived.Test.YthakbjdkcdppjaaGrwJ2
import Derived.Deep.CutRange
namespace Go.Proofs.Ythakbjdkcdppjaa.grwJ
open Go.ChangeShapes Go.WideShapes Go.ChangeAt Go.RowKit
open draw gridP gridC gridE bitP mazeP mazeC mazeM mazeR mazeI intsP reachP reachM reachN reachD intA listK wayP ersP ersO entO grwP grwO grwI
set_option linter.unusedVariables false

theorem grw_new {W X : World} {D : Nat} {p : Addr} (h : W.grownBy X (some D)) (hp : W.heap.size ≤ p.block) (u : Value) : W.grownBy (X.setCell p u) (some D) :=
  ⟨h.os, h.tape, h.output, by simpa [World.setCell] using h.size, fun k hk hne => (Below.heap_setCell X p u k (by omega)).trans (h.block k hk hne)⟩
/-- The division, the room's box, its two parts. -/
def DQ (W : World) (D B : Nat) (cs : List Int) (x y o : Int) (q : Nat) (v : Value) (k b0 b1 b2 b3 : Int) (P : Nat) (s0 s1 s2 s3 : Int) (R : Nat) (t0 t1 t2 t3 : Int) (X : World) : Prop :=
  DZ W D B cs x y o q v k X ∧ Blk W.heap.size #[.int .i64 b0, .int .i64 b1, .int .i64 b2, .int .i64 b3] X ∧ Blk P #[.int .i64 s0, .int .i64 s1, .int .i64 s2, .int .i64 s3] X ∧ Blk R #[.int .i64 t0, .int .i64 t1, .int .i64 t2, .int .i64 t3] X ∧
    P ≠ R ∧ W.heap.size < P ∧ W.heap.size < R
section
variable {W X X' : World} {D B q P R : Nat} {cs : List Int} {x y o k b0 b1 b2 b3 s0 s1 s2 s3 t0 t1 t2 t3 : Int} {v : Value}
theorem DZ.far (h : DZ W D B cs x y o q v k X) {p : Addr} (hp : W.heap.size ≤ p.block) (u : Value) : DZ W D B cs x y o q v k (X.setCell p u) := by
  have hB := h.2.2.2.1
  have hD := h.2.2.2.2
  exact ⟨grw_new h.1 hp u, blk_far h.2.1 (by omega) u, h.2.2.1.keep ((Below.refl _ _).setCell (by omega) _), h.2.2.2⟩
theorem DQ.call (h : DQ W D B cs x y o q v k b0 b1 b2 b3 P s0 s1 s2 s3 R t0 t1 t2 t3 X) (hb : Below X.heap.size X X') : DQ W D B cs x y o q v k b0 b1 b2 b3 P s0 s1 s2 s3 R t0 t1 t2 t3 X' :=
  ⟨h.1.call hb, h.2.1.call hb, h.2.2.1.call hb, h.2.2.2.1.call hb, h.2.2.2.2⟩
theorem DQ.dr (h : DQ W D B cs x y o q v k b0 b1 b2 b3 P s0 s1 s2 s3 R t0 t1 t2 t3 X) : DQ W D B cs x y o q v k b0 b1 b2 b3 P s0 s1 s2 s3 R t0 t1 t2 t3 X.drew := h.call ⟨rfl, rfl, rfl, Nat.le_refl _, fun _ _ => rfl⟩
theorem DQ.sub {o' k' : Int} {q' : Nat} {v' : Value} (h : DQ W D B cs x y o q v k b0 b1 b2 b3 P s0 s1 s2 s3 R t0 t1 t2 t3 X) (h' : DZ X D B cs x y o' q' v' k' X') : DQ W D B cs x y o' q' v' k' b0 b1 b2 b3 P s0 s1 s2 s3 R t0 t1 t2 t3 X' := by
  obtain ⟨h1, h2, h3, h4, h5, h6, h7⟩ := h
  have hD := h1.2.2.2.2
  exact ⟨h1.sub h', blk_grown h2 h'.1 (by omega), blk_grown h3 h'.1 (by omega), blk_grown h4 h'.1 (by omega), h5, h6, h7⟩
theorem DQ.next (h : DQ W D B cs x y o q v k b0 b1 b2 b3 P s0 s1 s2 s3 R t0 t1 t2 t3 X) (hx : NxP ⟨D, 3, none⟩ B cs q v X X') : ∃ v', DQ W D B cs x y o (q + 1) v' k b0 b1 b2 b3 P s0 s1 s2 s3 R t0 t1 t2 t3 X' := by
  obtain ⟨h1, h2, h3, h4, h5, h6, h7⟩ := h
  have hD := h1.2.2.2.2
  obtain ⟨v', hz, hg⟩ := h1.next hx
  exact ⟨v', hz, blk_grown h2 hg (by omega), blk_grown h3 hg (by omega), blk_grown h4 hg (by omega), h5, h6, h7⟩
theorem DQ.r1 (h : DQ W D B cs x y o q v k b0 b1 b2 b3 P s0 s1 s2 s3 R t0 t1 t2 t3 X) (u u' : Int) : DQ W D B cs x y o q v k b0 b1 b2 b3 P s0 s1 u u' R t0 t1 t2 t3 ((X.setCell ⟨P, 2, none⟩ (.int .i64 u)).setCell ⟨P, 3, none⟩ (.int .i64 u')) := by
  obtain ⟨h1, h2, h3, h4, h5, h6, h7⟩ := h
  exact ⟨(h1.far (by simp; omega) _).far (by simp; omega) _, blk_far (blk_far h2 (by simp; omega) _) (by simp; omega) _, blk_put (blk_put h3 2 (.int .i64 u)) 3 (.int .i64 u'), blk_far (blk_far h4 (by simpa using h5) _) (by simpa using h5) _, h5, h6, h7⟩
theorem DQ.r2 (h : DQ W D B cs x y o q v k b0 b1 b2 b3 P s0 s1 s2 s3 R t0 t1 t2 t3 X) (u u' : Int) : DQ W D B cs x y o q v k b0 b1 b2 b3 P s0 s1 s2 s3 R t0 t1 u u' ((X.setCell ⟨R, 2, none⟩ (.int .i64 u)).setCell ⟨R, 3, none⟩ (.int .i64 u')) := by
  obtain ⟨h1, h2, h3, h4, h5, h6, h7⟩ := h
  exact ⟨(h1.far (by simp; omega) _).far (by simp; omega) _, blk_far (blk_far h2 (by simp; omega) _) (by simp; omega) _, blk_far (blk_far h3 (by simpa using fun e => h5 e.symm) _) (by simpa using fun e => h5 e.symm) _, blk_put (blk_put h4 2 (.int .i64 u)) 3 (.int .i64 u'), h5, h6, h7⟩
theorem DQ.c1 (h : DQ W D B cs x y o q v k b0 b1 b2 b3 P s0 s1 s2 s3 R t0 t1 t2 t3 X) (u u' : Int) : DQ W D B cs x y o q v k b0 b1 b2 b3 P u u' s2 s3 R t0 t1 t2 t3 ((X.setCell ⟨P, 0, none⟩ (.int .i64 u)).setCell ⟨P, 1, none⟩ (.int .i64 u')) := by
  obtain ⟨h1, h2, h3, h4, h5, h6, h7⟩ := h
  exact ⟨(h1.far (by simp; omega) _).far (by simp; omega) _, blk_far (blk_far h2 (by simp; omega) _) (by simp; omega) _, blk_put (blk_put h3 0 (.int .i64 u)) 1 (.int .i64 u'), blk_far (blk_far h4 (by simpa using h5) _) (by simpa using h5) _, h5, h6, h7⟩
theorem DQ.c2 (h : DQ W D B cs x y o q v k b0 b1 b2 b3 P s0 s1 s2 s3 R t0 t1 t2 t3 X) (u u' : Int) : DQ W D B cs x y o q v k b0 b1 b2 b3 P s0 s1 s2 s3 R u u' t2 t3 ((X.setCell ⟨R, 0, none⟩ (.int .i64 u)).setCell ⟨R, 1, none⟩ (.int .i64 u')) := by
  obtain ⟨h1, h2, h3, h4, h5, h6, h7⟩ := h
  exact ⟨(h1.far (by simp; omega) _).far (by simp; omega) _, blk_far (blk_far h2 (by simp; omega) _) (by simp; omega) _, blk_far (blk_far h3 (by simpa using fun e => h5 e.symm) _) (by simpa using fun e => h5 e.symm) _, blk_put (blk_put h4 0 (.int .i64 u)) 1 (.int .i64 u'), h5, h6, h7⟩
/-- Two parts are made, in whatever order. -/
theorem dq_two (h : DZ W D B cs x y o q v k X) (hb : Blk W.heap.size #[.int .i64 b0, .int .i64 b1, .int .i64 b2, .int .i64 b3] X) (T T' : TypeId) :
    DQ W D B cs x y o q v k b0 b1 b2 b3 X.heap.size b0 b1 b2 b3 (X.heap.size + 1) b0 b1 b2 b3 ((X.alloc (.cells #[.int .i64 b0, .int .i64 b1, .int .i64 b2, .int .i64 b3] T)).alloc (.cells #[.int .i64 b0, .int .i64 b1, .int .i64 b2, .int .i64 b3] T')) ∧
    DQ W D B cs x y o q v k b0 b1 b2 b3 (X.heap.size + 1) b0 b1 b2 b3 X.heap.size b0 b1 b2 b3 ((X.alloc (.cells #[.int .i64 b0, .int .i64 b1, .int .i64 b2, .int .i64 b3] T)).alloc (.cells #[.int .i64 b0, .int .i64 b1, .int .i64 b2, .int .i64 b3] T')) := by
  have h1 := (h.call (below_box X (.cells #[.int .i64 b0, .int .i64 b1, .int .i64 b2, .int .i64 b3] T))).call (below_box _ (.cells #[.int .i64 b0, .int .i64 b1, .int .i64 b2, .int .i64 b3] T'))
  have h2 := (hb.call (below_box X (.cells #[.int .i64 b0, .int .i64 b1, .int .i64 b2, .int .i64 b3] T))).call (below_box _ (.cells #[.int .i64 b0, .int .i64 b1, .int .i64 b2, .int .i64 b3] T'))
  have h3 := (blk_new #[.int .i64 b0, .int .i64 b1, .int .i64 b2, .int .i64 b3] X T).call (below_box _ (.cells #[.int .i64 b0, .int .i64 b1, .int .i64 b2, .int .i64 b3] T'))
  have h4 : Blk (X.heap.size + 1) #[.int .i64 b0, .int .i64 b1, .int .i64 b2, .int .i64 b3] ((X.alloc (.cells #[.int .i64 b0, .int .i64 b1, .int .i64 b2, .int .i64 b3] T)).alloc (.cells #[.int .i64 b0, .int .i64 b1, .int .i64 b2, .int .i64 b3] T')) := by
    have := blk_new #[.int .i64 b0, .int .i64 b1, .int .i64 b2, .int .i64 b3] (X.alloc (.cells #[.int .i64 b0, .int .i64 b1, .int .i64 b2, .int .i64 b3] T)) T'
    simpa using this
  have hl := blk_lt hb
  exact ⟨⟨h1, h2, h3, h4, by omega, hl, by omega⟩, ⟨h1, h2, h4, h3, by omega, by omega, hl⟩⟩
end

/-- What a dividing leaves. -/
def DvR (W : World) (D B : Nat) (cs : List Int) (x y : Int) (q : Nat) (k : Int) (s : Int × Nat) (e : Ending) (w' : World) : Prop :=
  e = .returned (.tuple #[]) ∧ ∃ (v' : Value) (t : Nat), DZ W D B cs x y s.1 s.2 v' (k + (t : Int)) w' ∧ s.2 = q + 2 * t

set_option maxRecDepth 100000 in
set_option maxHeartbeats 4000000 in
theorem divideI_any (x y : Int) (hk : 1 ≤ x ∧ x ≤ 4 ∧ 1 ≤ y ∧ y ≤ 4) (D B : Nat) (hB : B ≤ D) (cs : List Int) :
    ∀ (f : Nat) (o : Int) (q x0 y0 wd ht : Nat) (v : Value) (k X0 Y0 Wd Ht : Int) (W : World), X0 = (x0 : Int) → Y0 = (y0 : Int) → Wd = (wd : Int) → Ht = (ht : Int) →
      Blk D #[.int .i64 x, .int .i64 y, .int .i64 o, v, .int .i64 k] W → ChV W B cs q v → 0 ≤ k ∧ 2 * k ≤ (q : Int) →
      1 ≤ wd → 1 ≤ ht → wd + ht ≤ f + 1 → x0 + wd ≤ 4 → y0 + ht ≤ 4 → q + 2 * (wd * ht) ≤ 64 →
      Calls Try.prog 52 #[.pointer (some ⟨D, 0, none⟩), .agg #[.int .i64 X0, .int .i64 Wd, .int .i64 Y0, .int .i64 Ht]] W (DvR W D B cs x y q k (dvF x y cs f (o, q) x0 y0 wd ht)) := by
  intro f
  induction f with
  | zero => intro o q x0 y0 wd ht v k X0 Y0 Wd Ht W _ _ _ _ _ _ _ h1 h2 h3; omega
  | succ f ih =>
    intro o q x0 y0 wd ht v k X0 Y0 Wd Ht W e1 e2 e3 e4 hD hv hkq h1 h2 h3 h4 h5 h6
    subst e1; subst e2; subst e3; subst e4
    have hdz0 : Hid (∀ T, DZ W D B cs x y o q v k (W.alloc (.cells #[.int .i64 (x0 : Int), .int .i64 (wd : Int), .int .i64 (y0 : Int), .int .i64 (ht : Int)] T)) ∧ Blk W.heap.size #[.int .i64 (x0 : Int), .int .i64 (wd : Int), .int .i64 (y0 : Int), .int .i64 (ht : Int)] (W.alloc (.cells #[.int .i64 (x0 : Int), .int .i64 (wd : Int), .int .i64 (y0 : Int), .int .i64 (ht : Int)] T))) := Lib.hid fun T => ⟨(dz_new hD hv hB).call (below_box _ _), blk_new _ W T⟩
    clear hD hv
    by_cases hb : wd = 1 ∨ ht = 1
    · rw [dv_base hb]
      have HE : Hid (∀ T, DvR W D B cs x y q k (o, q) (.returned (.tuple #[])) (W.alloc (.cells #[.int .i64 (x0 : Int), .int .i64 (wd : Int), .int .i64 (y0 : Int), .int .i64 (ht : Int)] T))) := Lib.hid fun T => ⟨rfl, v, 0, by simpa using (hdz0.out T).1, rfl⟩
      clear ih h6 hdz0
      by_cases hw1 : wd = 1
      · subst hw1
        go_enter Try.func52, Try.ntmps52
        go_wp2_with fail
        refine bodyPost_ret (results_none rfl _ _ _) rfl ?_
        exact HE.out _
      · obtain rfl : ht = 1 := by omega
        have hw2 : ¬ (wd : Int) = 1 := by omega
        have hwb : ((wd : Int) == 1) = false := by simpa using hw2
        go_enter Try.func52, Try.ntmps52
        go_wp2_with fail
        refine bodyPost_ret (results_none rfl _ _ _) rfl ?_
        exact HE.out _
    · have hw2 : 2 ≤ wd := by omega
      have ht2 : 2 ≤ ht := by omega
      have hwn : ¬ (wd : Int) = 1 := by omega
      have htn : ¬ (ht : Int) = 1 := by omega
      have hwb : ((wd : Int) == 1) = false := by simpa using hwn
      have htb : ((ht : Int) == 1) = false := by simpa using htn
      by_cases hl : wd ≤ ht
      · have hli : (wd : Int) ≤ (ht : Int) := by omega
        have hrl := Nat.mod_lt (chZ cs q).toNat (show 0 < ht - 1 by omega)
        have hpl := Nat.mod_lt (chZ cs (q + 1)).toNat (show 0 < wd by omega)
        have HE := Lib.hid (@dv_rows x y cs f o q x0 y0 wd ht hb hl _ _ rfl rfl)
        have HNe : Hid (∀ v X, X.cell? ⟨D, 3, none⟩ = some v → X.frozen? ⟨D, 3, none⟩ = false → ChV X B cs q v → Calls Try.prog 27 #[.pointer (some ⟨D, 3, none⟩), .int .i64 ((ht : Int) - 1)] X fun e w' => e = .returned (.int .i64 (((chZ cs q).toNat % (ht - 1) : Nat) : Int)) ∧ NxP ⟨D, 3, none⟩ B cs q v X w') := Lib.hid fun v X e1 e2 e3 => by
          have := next_any D 3 q (ht - 1) B cs v X e1 e2 e3 (by omega) (by omega)
          rwa [show (((ht - 1 : Nat) : Nat) : Int) = (ht : Int) - 1 by omega] at this
        have HSw := Lib.hid (fun L g c v o d (X : World) e1 e2 e3 e4 => setWall_any x y D B (q + 1) wd c ((chZ cs (q + 1)).toNat % wd) g cs L v o k d X e1 e2 hB e3 (by omega) e4 (by omega) rfl)
        generalize (chZ cs q).toNat % (ht - 1) = r at *
        generalize (chZ cs (q + 1)).toNat % wd = p at *
        have hmu : wd * ht = wd * (r + 1) + wd * (ht - r - 1) := by rw [← Nat.mul_add]; congr 1; omega
        have hm1 : 1 ≤ wd * (ht - r - 1) := Nat.mul_pos (by omega) (by omega)
        have hus := dv_used (x := x) (y := y) (cs := cs) f (wlH x y o x0 (y0 + r) p wd) (q + 2) x0 y0 wd (r + 1) (by omega) (by omega)
        have HO1 : Hid (swF x y o (rcL x x0 (y0 + r) wd 1) 2 p wd = wlH x y o x0 (y0 + r) p wd) := Lib.hid (sw_row x y o x0 (y0 + r) wd p wd (Nat.le_refl _))
        have HLl : Hid ((rcL x x0 (y0 + r) wd 1).length = wd) := Lib.hid (by rw [rcL_len, Nat.one_mul])
        obtain ⟨R0, hR0⟩ : ∃ R0 : Int, R0 = ((y0 + r : Nat) : Int) := ⟨_, rfl⟩
        obtain ⟨n1, hn1⟩ : ∃ n1 : Int, n1 = ((r + 1 : Nat) : Int) := ⟨_, rfl⟩
        obtain ⟨a2, ha2⟩ : ∃ a2 : Int, a2 = ((y0 + r + 1 : Nat) : Int) := ⟨_, rfl⟩
        obtain ⟨b2, hb2⟩ : ∃ b2 : Int, b2 = ((ht - r - 1 : Nat) : Int) := ⟨_, rfl⟩
        have HCe : Hid (∀ X, Calls Try.prog 64 #[.agg #[.int .i64 x, .int .i64 y], .agg #[.int .i64 (x0 : Int), .int .i64 (wd : Int), .int .i64 R0, .int .i64 1]] X (Ints (rcL x x0 (y0 + r) wd 1) X)) := Lib.hid fun X => by rw [hR0]; exact cellsOf_any x y x0 wd (y0 + r) 1 X ⟨by omega, hk.2.1⟩ (by omega) (by omega)
        have HCut : Hid (∀ X, Calls Try.prog 62 #[.agg #[.int .i64 (y0 : Int), .int .i64 (ht : Int)], .int .i64 (1 + (r : Int))] X (Spn2 (y0 : Int) n1 a2 b2 X)) := Lib.hid fun X => by
          have := cut_any (y0 : Int) (ht : Int) (1 + (r : Int)) X (by omega) (by omega) (by omega)
          rwa [show (y0 : Int) + (1 + (r : Int)) = a2 by omega, show (ht : Int) - (1 + (r : Int)) = b2 by omega, show Spn2 (y0 : Int) (1 + (r : Int)) a2 b2 X = Spn2 (y0 : Int) n1 a2 b2 X by rw [show 1 + (r : Int) = n1 by omega]] at this
        have HLa : Hid (∀ X, Calls Try.prog 65 #[.agg #[.int .i64 (y0 : Int), .int .i64 n1]] X (Spn R0 1 X)) := Lib.hid fun X => by
          have := last_any (y0 : Int) n1 X (by omega) (by omega)
          rwa [show (y0 : Int) + n1 - 1 = R0 by omega] at this
        have HI1 : Hid (∀ v X, Blk D #[.int .i64 x, .int .i64 y, .int .i64 (wlH x y o x0 (y0 + r) p wd), v, .int .i64 (k + 1)] X → ChV X B cs (q + 2) v → Calls Try.prog 52 #[.pointer (some ⟨D, 0, none⟩), .agg #[.int .i64 (x0 : Int), .int .i64 (wd : Int), .int .i64 (y0 : Int), .int .i64 n1]] X (DvR X D B cs x y (q + 2) (k + 1) (dvF x y cs f (wlH x y o x0 (y0 + r) p wd, q + 2) x0 y0 wd (r + 1)))) := Lib.hid fun v X g1 g2 =>
          ih _ (q + 2) x0 y0 wd (r + 1) v (k + 1) _ _ _ _ X rfl rfl rfl (by omega) g1 g2 (by omega) (by omega) (by omega) (by omega) (by omega) (by omega) (by omega)
        generalize hL : rcL x x0 (y0 + r) wd 1 = L at *
        generalize wlH x y o x0 (y0 + r) p wd = o1 at *
        generalize hs1 : dvF x y cs f (o1, q + 2) x0 y0 wd (r + 1) = s1 at *
        obtain ⟨o2, q2⟩ := s1
        simp only at hus
        have HI2 : Hid (∀ v t1 X, q2 = q + 2 + 2 * t1 → Blk D #[.int .i64 x, .int .i64 y, .int .i64 o2, v, .int .i64 (k + 1 + (t1 : Int))] X → ChV X B cs q2 v → Calls Try.prog 52 #[.pointer (some ⟨D, 0, none⟩), .agg #[.int .i64 (x0 : Int), .int .i64 (wd : Int), .int .i64 a2, .int .i64 b2]] X (DvR X D B cs x y q2 (k + 1 + (t1 : Int)) (dvF x y cs f (o2, q2) x0 (y0 + r + 1) wd (ht - r - 1)))) := Lib.hid fun v t1 X g0 g1 g2 =>
          ih _ q2 x0 (y0 + r + 1) wd (ht - r - 1) v (k + 1 + (t1 : Int)) _ _ _ _ X rfl (by omega) rfl (by omega) g1 g2 (by omega) (by omega) (by omega) (by omega) (by omega) (by omega) (by omega)
        have HE2 : Hid (dvF x y cs (f + 1) (o, q) x0 y0 wd ht = dvF x y cs f (o2, q2) x0 (y0 + r + 1) wd (ht - r - 1)) := Lib.hid HE.out
        generalize dvF x y cs f (o2, q2) x0 (y0 + r + 1) wd (ht - r - 1) = s2 at *
        rw [HE2.out]
        have HSw1 : Hid (∀ g c v X, Blk D #[.int .i64 x, .int .i64 y, .int .i64 o, v, .int .i64 k] X → ChV X B cs (q + 1) v → X.ownsRow (D + 1) 3 1 (.slice (some ⟨g, 0, none⟩) wd c) wd (icells L) → Calls Try.prog 63 #[.pointer (some ⟨D, 0, none⟩), .slice (some ⟨g, 0, none⟩) wd c, .int .i64 2] X fun e w' => e = .returned (.tuple #[]) ∧ ∃ v', DZ X D B cs x y o1 (q + 2) v' (k + 1) w') := Lib.hid fun g c v X e1 e2 e3 => by
          have := HSw.out L g c v o 2 X e1 e2 HLl.out e3
          rwa [HO1.out] at this
        have hw0 : IntKind.i64.wrap ((ht : Int) - 1) = (ht : Int) - 1 := IntWalk.i64_in _ (by omega)
        have hw1 : IntKind.i64.wrap (1 + (r : Int)) = 1 + (r : Int) := IntWalk.i64_in _ (by omega)
        have HT : Hid (∀ T T' T'', DQ W D B cs x y o q v k x0 wd y0 ht (W.heap.size + 1) x0 wd y0 ht (W.heap.size + 1 + 1) x0 wd y0 ht (((W.alloc (.cells #[.int .i64 (x0 : Int), .int .i64 (wd : Int), .int .i64 (y0 : Int), .int .i64 (ht : Int)] T)).alloc (.cells #[.int .i64 (x0 : Int), .int .i64 (wd : Int), .int .i64 (y0 : Int), .int .i64 (ht : Int)] T')).alloc (.cells #[.int .i64 (x0 : Int), .int .i64 (wd : Int), .int .i64 (y0 : Int), .int .i64 (ht : Int)] T'')).drew ∧
            DQ W D B cs x y o q v k x0 wd y0 ht (W.heap.size + 1 + 1) x0 wd y0 ht (W.heap.size + 1) x0 wd y0 ht (((W.alloc (.cells #[.int .i64 (x0 : Int), .int .i64 (wd : Int), .int .i64 (y0 : Int), .int .i64 (ht : Int)] T)).alloc (.cells #[.int .i64 (x0 : Int), .int .i64 (wd : Int), .int .i64 (y0 : Int), .int .i64 (ht : Int)] T')).alloc (.cells #[.int .i64 (x0 : Int), .int .i64 (wd : Int), .int .i64 (y0 : Int), .int .i64 (ht : Int)] T'')).drew) := Lib.hid fun T T' T'' => by
          have h := dq_two (hdz0.out T).1 (hdz0.out T).2 T' T''
          have e : (W.alloc (.cells #[.int .i64 (x0 : Int), .int .i64 (wd : Int), .int .i64 (y0 : Int), .int .i64 (ht : Int)] T)).heap.size = W.heap.size + 1 := by simp
          rw [e] at h
          exact ⟨h.1.dr, h.2.dr⟩
        clear ih h6 hb HE HE2 hs1 hmu hm1 hus hL HSw HO1 hdz0 hR0 hn1 ha2 hb2
        go_enter Try.func52, Try.ntmps52
        go_wp2_with fail
        go_cut [4, 5] from 16 to 17 (fun u4 u5 wx => ∃ P R : Nat, u4 = .pointer (some ⟨P, 0, none⟩) ∧ u5 = .pointer (some ⟨R, 0, none⟩) ∧ DQ W D B cs x y o q v k x0 wd y0 ht P x0 wd y0 ht R x0 wd y0 ht wx)
        case first =>
          go_region
          all_goals (go_wp2_with fail; go_meet; first | exact ⟨_, _, rfl, rfl, (HT.out _ _ _).1⟩ | exact ⟨_, _, rfl, rfl, (HT.out _ _ _).2⟩)
        case rest =>
          clear HT
          obtain ⟨P, R, rfl, rfl, hdq0⟩ := hcut
          have hdq := Lib.hid hdq0
          obtain ⟨hPR, hWP, hWR⟩ := hdq0.2.2.2.2
          have hRP : R ≠ P := fun e => hPR e.symm
          have hPW : P ≠ W.heap.size := by omega
          have hRW : R ≠ W.heap.size := by omega
          obtain ⟨⟨c0, c1, c2, c3⟩, -⟩ := blk4_cells hdq0.2.1
          clear hdq0
          go_wp2_with fail
          go_cut [] from 25 to 41 (fun wx => ∃ v1, DQ W D B cs x y o (q + 1) v1 k x0 wd y0 ht P x0 wd y0 n1 R x0 wd a2 b2 wx)
          case first =>
            try simp only [List.cons_append, List.nil_append, List.append_eq]
            refine wp_region_held_drew (S := (fun w' => w'.cell? ⟨W.heap.size, 0, none⟩ = some (.int .i64 (x0 : Int)) ∧ w'.cell? ⟨W.heap.size, 1, none⟩ = some (.int .i64 (wd : Int)) ∧ w'.cell? ⟨W.heap.size, 2, none⟩ = some (.int .i64 (y0 : Int)) ∧ w'.cell? ⟨W.heap.size, 3, none⟩ = some (.int .i64 (ht : Int)))) (by kernel_rfl) ?_ (fun hHeld0 => ?_)
            · (try dsimp only); (first | exact (blk4_cells ((hq2.out.r1 y0 n1).r2 a2 b2).2.1).1 | exact (blk4_cells ((hq2.out.r2 a2 b2).r1 y0 n1).2.1).1 | exact (blk4_cells (hq2.out.r1 y0 n1).2.1).1 | exact (blk4_cells (hq2.out.r2 a2 b2).2.1).1 | exact (blk4_cells hq2.out.2.1).1 | exact (blk4_cells hq1.out.2.1).1 | go_keep)
            refine wpAnyH_take (i := 0) (oi := { dst := some 26, op := Go.Op.fieldAddr 80 (Go.Operand.tmp 3) 1, type := 0, pos := "l17_grow.go:108", after := #[], guard := none }) (v := ?_) rfl (by kernel_rfl) (by kernel_rfl) (by kernel_rfl) (fun _ _ _ h => h) (Or.inl ⟨by rfl, ?_⟩) (by assumption) ?_
            rotate_left
            · (intro w hSw; (try dsimp only at hSw); go_simp; try with_reducible rfl)
            try simp only [Act.put, List.setIfInBounds_toArray, List.set_cons_zero, List.set_cons_succ]
            refine wpAnyH_take (i := 1) (oi := { dst := some 27, op := Go.Op.load 78 (Go.Operand.tmp 26), type := 78, pos := "l17_grow.go:108", after := #[{ on := 0, ground := Go.Ground.data }], guard := none }) (v := ?_) rfl (by kernel_rfl) (by kernel_rfl) (by kernel_rfl) (fun _ _ _ h => h) (Or.inl ⟨by rfl, ?_⟩) (by assumption) ?_
            rotate_left
            · (intro w hSw; (try dsimp only at hSw); go_simp; try with_reducible rfl)
            try simp only [Act.put, List.setIfInBounds_toArray, List.set_cons_zero, List.set_cons_succ]
            refine wpAnyH_take (i := 2) (oi := { dst := some 28, op := Go.Op.move (Go.Operand.tmp 0), type := 87, pos := "l17_grow.go:108", after := #[], guard := none }) (v := ?_) rfl (by kernel_rfl) (by kernel_rfl) (by kernel_rfl) (fun _ _ _ h => h) (Or.inl ⟨by rfl, ?_⟩) (by assumption) ?_
            rotate_left
            · (intro w hSw; (try dsimp only at hSw); go_simp; try with_reducible rfl)
            try simp only [Act.put, List.setIfInBounds_toArray, List.set_cons_zero, List.set_cons_succ]
            refine wpAnyH_take (i := 3) (oi := { dst := some 29, op := Go.Op.nilCheck (Go.Operand.tmp 28), type := 0, pos := "l17_grow.go:108", after := #[{ on := 2, ground := Go.Ground.data }], guard := none }) (v := ?_) rfl (by kernel_rfl) (by kernel_rfl) (by kernel_rfl) (fun _ _ _ h => h) (Or.inl ⟨by rfl, ?_⟩) (by assumption) ?_
            rotate_left
            · (intro w hSw; (try dsimp only at hSw); go_simp; try with_reducible rfl)
            try simp only [Act.put, List.setIfInBounds_toArray, List.set_cons_zero, List.set_cons_succ]
            refine wpAnyH_take (i := 4) (oi := { dst := some 30, op := Go.Op.fieldAddr 59 (Go.Operand.tmp 29) 1, type := 0, pos := "l17_grow.go:108", after := #[{ on := 3, ground := Go.Ground.data }], guard := none }) (v := ?_) rfl (by kernel_rfl) (by kernel_rfl) (by kernel_rfl) (fun _ _ _ h => h) (Or.inl ⟨by rfl, ?_⟩) (by assumption) ?_
            rotate_left
            · (intro w hSw; (try dsimp only at hSw); go_simp; try with_reducible rfl)
            try simp only [Act.put, List.setIfInBounds_toArray, List.set_cons_zero, List.set_cons_succ]
            refine wpAnyH_take (i := 5) (oi := { dst := some 31, op := Go.Op.fieldAddr 80 (Go.Operand.tmp 3) 1, type := 0, pos := "l17_grow.go:108", after := #[], guard := none }) (v := ?_) rfl (by kernel_rfl) (by kernel_rfl) (by kernel_rfl) (fun _ _ _ h => h) (Or.inl ⟨by rfl, ?_⟩) (by assumption) ?_
            rotate_left
            · (intro w hSw; (try dsimp only at hSw); go_simp; try with_reducible rfl)
            try simp only [Act.put, List.setIfInBounds_toArray, List.set_cons_zero, List.set_cons_succ]
            refine wpAnyH_take (i := 6) (oi := { dst := some 32, op := Go.Op.fieldAddr 78 (Go.Operand.tmp 31) 1, type := 0, pos := "l17_grow.go:108", after := #[{ on := 5, ground := Go.Ground.data }], guard := none }) (v := ?_) rfl (by kernel_rfl) (by kernel_rfl) (by kernel_rfl) (fun _ _ _ h => h) (Or.inl ⟨by rfl, ?_⟩) (by assumption) ?_
            rotate_left
            · (intro w hSw; (try dsimp only at hSw); go_simp; try with_reducible rfl)
            try simp only [Act.put, List.setIfInBounds_toArray, List.set_cons_zero, List.set_cons_succ]
            refine wpAnyH_take (i := 7) (oi := { dst := some 33, op := Go.Op.load 3 (Go.Operand.tmp 32), type := 3, pos := "l17_grow.go:108", after := #[{ on := 6, ground := Go.Ground.data }], guard := none }) (v := ?_) rfl (by kernel_rfl) (by kernel_rfl) (by kernel_rfl) (fun _ _ _ h => h) (Or.inl ⟨by rfl, ?_⟩) (by assumption) ?_
            rotate_left
            · (intro w hSw; (try dsimp only at hSw); go_simp; try with_reducible rfl)
            try simp only [Act.put, List.setIfInBounds_toArray, List.set_cons_zero, List.set_cons_succ]
            refine wpAnyH_take (i := 8) (oi := { dst := some 34, op := Go.Op.binOp Go.BinOp.sub 3 (Go.Operand.tmp 33) (Go.Operand.const (Go.Value.int Go.IntKind.i64 1)) 3, type := 3, pos := "l17_grow.go:108", after := #[{ on := 7, ground := Go.Ground.data }], guard := none }) (v := ?_) rfl (by kernel_rfl) (by kernel_rfl) (by kernel_rfl) (fun _ _ _ h => h) (Or.inl ⟨by rfl, ?_⟩) (by assumption) ?_
            rotate_left
            · (intro w hSw; (try dsimp only at hSw); go_simp; try with_reducible rfl)
            try simp only [Act.put, List.setIfInBounds_toArray, List.set_cons_zero, List.set_cons_succ]
            refine wpAnyH_ready (rs := [9]) (by kernel_rfl) (by simp) ?_
            refine AllReadyH.cons (o := { dst := some 35, op := Go.Op.call { callee := Go.Callee.value (Go.Operand.func 27), args := #[Go.Operand.tmp 30, Go.Operand.tmp 34], argTypes := #[50, 3] }, type := 3, pos := "l17_grow.go:108", after := #[{ on := 4, ground := Go.Ground.data }, { on := 8, ground := Go.Ground.data }], guard := none }) rfl (fun K9 hK9 => ?_) AllReadyH.nil
            go_simp
            (refine (HNe.out _ _ (blk5_cells hdq.out.dr.1.2.1).1.2.2.2.1 (blk_froz hdq.out.dr.1.2.1 3) hdq.out.dr.1.2.2.1).mono ?_; rintro e v1 ⟨rfl, hx⟩; obtain ⟨v1', hq1'⟩ := hdq.out.dr.next hx; have hq1 := Lib.hid hq1'; clear hq1' hx)
            go_wp2_with fail
            refine hK9.out _ _ ?_ (fun hHeld1 => ?_)
            · (try dsimp only); (first | exact (blk4_cells ((hq2.out.r1 y0 n1).r2 a2 b2).2.1).1 | exact (blk4_cells ((hq2.out.r2 a2 b2).r1 y0 n1).2.1).1 | exact (blk4_cells (hq2.out.r1 y0 n1).2.1).1 | exact (blk4_cells (hq2.out.r2 a2 b2).2.1).1 | exact (blk4_cells hq2.out.2.1).1 | exact (blk4_cells hq1.out.2.1).1 | go_keep)
            clear hK9 K9 hHeld0
            try simp only [Act.put, List.setIfInBounds_toArray, List.set_cons_zero, List.set_cons_succ]
            refine wpAnyH_take (i := 10) (oi := { dst := some 36, op := Go.Op.binOp Go.BinOp.add 3 (Go.Operand.const (Go.Value.int Go.IntKind.i64 1)) (Go.Operand.tmp 35) 3, type := 3, pos := "l17_grow.go:108", after := #[{ on := 9, ground := Go.Ground.data }], guard := none }) (v := ?_) rfl (by kernel_rfl) (by kernel_rfl) (by kernel_rfl) (fun _ _ _ h => h) (Or.inl ⟨by rfl, ?_⟩) (by assumption) ?_
            rotate_left
            · (intro w hSw; (try dsimp only at hSw); go_simp; try with_reducible rfl)
            try simp only [Act.put, List.setIfInBounds_toArray, List.set_cons_zero, List.set_cons_succ]
            refine wpAnyH_ready (rs := [11]) (by kernel_rfl) (by simp) ?_
            refine AllReadyH.cons (o := { dst := some 37, op := Go.Op.call { callee := Go.Callee.value (Go.Operand.func 62), args := #[Go.Operand.tmp 27, Go.Operand.tmp 36], argTypes := #[78, 3] }, type := 88, pos := "l17_grow.go:108", after := #[{ on := 1, ground := Go.Ground.data }, { on := 10, ground := Go.Ground.data }, { on := 9, ground := Go.Ground.chain }], guard := none }) rfl (fun K11 hK11 => ?_) AllReadyH.nil
            go_simp
            (refine (HCut.out _).mono ?_; rintro e v2 ⟨rfl, hb2⟩; have hq2 := Lib.hid (hq1.out.call hb2); obtain ⟨⟨p0, p1, p2, p3⟩, e0, e1, e2, e3⟩ := blk4_cells hq2.out.2.2.1; obtain ⟨⟨r0, r1, r2, r3⟩, g0, g1, g2, g3⟩ := blk4_cells hq2.out.2.2.2.1)
            go_wp2_with fail
            refine hK11.out _ _ ?_ (fun hHeld2 => ?_)
            · (try dsimp only); (first | exact (blk4_cells ((hq2.out.r1 y0 n1).r2 a2 b2).2.1).1 | exact (blk4_cells ((hq2.out.r2 a2 b2).r1 y0 n1).2.1).1 | exact (blk4_cells (hq2.out.r1 y0 n1).2.1).1 | exact (blk4_cells (hq2.out.r2 a2 b2).2.1).1 | exact (blk4_cells hq2.out.2.1).1 | exact (blk4_cells hq1.out.2.1).1 | go_keep)
            clear hK11 K11 hHeld1
            try simp only [Act.put, List.setIfInBounds_toArray, List.set_cons_zero, List.set_cons_succ]
            refine wpAnyH_take (i := 12) (oi := { dst := some 25, op := Go.Op.move (Go.Operand.tmp 37), type := 88, pos := "l17_grow.go:108", after := #[{ on := 11, ground := Go.Ground.data }], guard := none }) (v := ?_) rfl (by kernel_rfl) (by kernel_rfl) (by kernel_rfl) (fun _ _ _ h => h) (Or.inl ⟨by rfl, ?_⟩) (by assumption) ?_
            rotate_left
            · (intro w hSw; (try dsimp only at hSw); go_simp; try with_reducible rfl)
            try simp only [Act.put, List.setIfInBounds_toArray, List.set_cons_zero, List.set_cons_succ]
            refine wpAnyH_take (i := 13) (oi := { dst := some 38, op := Go.Op.extract (Go.Operand.tmp 25) 0, type := 78, pos := "l17_grow.go:108", after := #[{ on := 12, ground := Go.Ground.data }], guard := none }) (v := ?_) rfl (by kernel_rfl) (by kernel_rfl) (by kernel_rfl) (fun _ _ _ h => h) (Or.inl ⟨by rfl, ?_⟩) (by assumption) ?_
            rotate_left
            · (intro w hSw; (try dsimp only at hSw); go_simp; try with_reducible rfl)
            try simp only [Act.put, List.setIfInBounds_toArray, List.set_cons_zero, List.set_cons_succ]
            refine wpAnyH_take (i := 14) (oi := { dst := some 39, op := Go.Op.extract (Go.Operand.tmp 25) 1, type := 78, pos := "l17_grow.go:108", after := #[{ on := 12, ground := Go.Ground.data }, { on := 16, ground := Go.Ground.gcOnly Go.Departure.lateStores }], guard := none }) (v := ?_) rfl (by kernel_rfl) (by kernel_rfl) (by kernel_rfl) (fun _ _ _ h => h) (Or.inl ⟨by rfl, ?_⟩) (by assumption) ?_
            rotate_left
            · (intro w hSw; (try dsimp only at hSw); go_simp; try with_reducible rfl)
            try simp only [Act.put, List.setIfInBounds_toArray, List.set_cons_zero, List.set_cons_succ]
            refine wpAnyH_take (i := 15) (oi := { dst := some 40, op := Go.Op.fieldAddr 80 (Go.Operand.tmp 4) 1, type := 0, pos := "l17_grow.go:108", after := #[{ on := 0, ground := Go.Ground.phase }, { on := 1, ground := Go.Ground.phase }, { on := 2, ground := Go.Ground.phase }, { on := 3, ground := Go.Ground.phase }, { on := 4, ground := Go.Ground.phase }, { on := 5, ground := Go.Ground.phase }, { on := 6, ground := Go.Ground.phase }, { on := 7, ground := Go.Ground.phase }, { on := 8, ground := Go.Ground.phase }, { on := 9, ground := Go.Ground.phase }, { on := 10, ground := Go.Ground.phase }, { on := 11, ground := Go.Ground.phase }, { on := 12, ground := Go.Ground.phase }, { on := 13, ground := Go.Ground.phase }, { on := 14, ground := Go.Ground.textOnly Go.Departure.lateStores }], guard := none }) (v := ?_) rfl (by kernel_rfl) (by kernel_rfl) (by kernel_rfl) (fun _ _ _ h => h) (Or.inl ⟨by rfl, ?_⟩) (by assumption) ?_
            rotate_left
            · (intro w hSw; (try dsimp only at hSw); go_simp; try with_reducible rfl)
            try simp only [Act.put, List.setIfInBounds_toArray, List.set_cons_zero, List.set_cons_succ]
            refine wpAnyH_ready (rs := [16]) (by kernel_rfl) (by simp) ?_
            refine AllReadyH.cons (o := { dst := none, op := Go.Op.store 78 (Go.Operand.tmp 40) (Go.Operand.tmp 38), type := 0, pos := "l17_grow.go:108", after := #[{ on := 15, ground := Go.Ground.data }, { on := 13, ground := Go.Ground.data }, { on := 11, ground := Go.Ground.chain }, { on := 0, ground := Go.Ground.phase }, { on := 1, ground := Go.Ground.phase }, { on := 2, ground := Go.Ground.phase }, { on := 3, ground := Go.Ground.phase }, { on := 4, ground := Go.Ground.phase }, { on := 5, ground := Go.Ground.phase }, { on := 6, ground := Go.Ground.phase }, { on := 7, ground := Go.Ground.phase }, { on := 8, ground := Go.Ground.phase }, { on := 9, ground := Go.Ground.phase }, { on := 10, ground := Go.Ground.phase }, { on := 11, ground := Go.Ground.phase }, { on := 12, ground := Go.Ground.phase }, { on := 13, ground := Go.Ground.phase }, { on := 14, ground := Go.Ground.textOnly Go.Departure.lateStores }], guard := none }) rfl (fun K16 hK16 => ?_) AllReadyH.nil
            go_simp
            refine hK16.out _ _ ?_ (fun hHeld3 => ?_)
            · (try dsimp only); (first | exact (blk4_cells ((hq2.out.r1 y0 n1).r2 a2 b2).2.1).1 | exact (blk4_cells ((hq2.out.r2 a2 b2).r1 y0 n1).2.1).1 | exact (blk4_cells (hq2.out.r1 y0 n1).2.1).1 | exact (blk4_cells (hq2.out.r2 a2 b2).2.1).1 | exact (blk4_cells hq2.out.2.1).1 | exact (blk4_cells hq1.out.2.1).1 | go_keep)
            clear hK16 K16 hHeld2
            try simp only [Act.put, List.setIfInBounds_toArray, List.set_cons_zero, List.set_cons_succ]
            refine wpAnyH_take (i := 17) (oi := { dst := some 41, op := Go.Op.fieldAddr 80 (Go.Operand.tmp 5) 1, type := 0, pos := "l17_grow.go:108", after := #[{ on := 0, ground := Go.Ground.phase }, { on := 1, ground := Go.Ground.phase }, { on := 2, ground := Go.Ground.phase }, { on := 3, ground := Go.Ground.phase }, { on := 4, ground := Go.Ground.phase }, { on := 5, ground := Go.Ground.phase }, { on := 6, ground := Go.Ground.phase }, { on := 7, ground := Go.Ground.phase }, { on := 8, ground := Go.Ground.phase }, { on := 9, ground := Go.Ground.phase }, { on := 10, ground := Go.Ground.phase }, { on := 11, ground := Go.Ground.phase }, { on := 12, ground := Go.Ground.phase }, { on := 13, ground := Go.Ground.phase }, { on := 14, ground := Go.Ground.phase }, { on := 15, ground := Go.Ground.phase }, { on := 16, ground := Go.Ground.phase }], guard := none }) (v := ?_) rfl (by kernel_rfl) (by kernel_rfl) (by kernel_rfl) (fun _ _ _ h => h) (Or.inl ⟨by rfl, ?_⟩) (by assumption) ?_
            rotate_left
            · (intro w hSw; (try dsimp only at hSw); go_simp; try with_reducible rfl)
            try simp only [Act.put, List.setIfInBounds_toArray, List.set_cons_zero, List.set_cons_succ]
            refine wpAnyH_ready (rs := [18]) (by kernel_rfl) (by simp) ?_
            refine AllReadyH.cons (o := { dst := none, op := Go.Op.store 78 (Go.Operand.tmp 41) (Go.Operand.tmp 39), type := 0, pos := "l17_grow.go:108", after := #[{ on := 17, ground := Go.Ground.data }, { on := 14, ground := Go.Ground.data }, { on := 16, ground := Go.Ground.chain }, { on := 0, ground := Go.Ground.phase }, { on := 1, ground := Go.Ground.phase }, { on := 2, ground := Go.Ground.phase }, { on := 3, ground := Go.Ground.phase }, { on := 4, ground := Go.Ground.phase }, { on := 5, ground := Go.Ground.phase }, { on := 6, ground := Go.Ground.phase }, { on := 7, ground := Go.Ground.phase }, { on := 8, ground := Go.Ground.phase }, { on := 9, ground := Go.Ground.phase }, { on := 10, ground := Go.Ground.phase }, { on := 11, ground := Go.Ground.phase }, { on := 12, ground := Go.Ground.phase }, { on := 13, ground := Go.Ground.phase }, { on := 14, ground := Go.Ground.phase }, { on := 15, ground := Go.Ground.phase }, { on := 16, ground := Go.Ground.phase }], guard := none }) rfl (fun K18 hK18 => ?_) AllReadyH.nil
            go_simp
            refine hK18.out _ _ ?_ (fun hHeld4 => ?_)
            · (try dsimp only); (first | exact (blk4_cells ((hq2.out.r1 y0 n1).r2 a2 b2).2.1).1 | exact (blk4_cells ((hq2.out.r2 a2 b2).r1 y0 n1).2.1).1 | exact (blk4_cells (hq2.out.r1 y0 n1).2.1).1 | exact (blk4_cells (hq2.out.r2 a2 b2).2.1).1 | exact (blk4_cells hq2.out.2.1).1 | exact (blk4_cells hq1.out.2.1).1 | go_keep)
            clear hK18 K18 hHeld3
            try simp only [Act.put, List.setIfInBounds_toArray, List.set_cons_zero, List.set_cons_succ]
            refine wpAnyH_done (by kernel_rfl) ?_ _
            (go_wp2_with fail; go_meet; first | exact ⟨_, (hq2.out.r1 y0 n1).r2 a2 b2⟩ | exact ⟨_, (hq2.out.r2 a2 b2).r1 y0 n1⟩)
          case rest =>
            clear c0 c1 c2 c3 hdq HNe HCut hw0 hw1
            obtain ⟨v1, hdq0⟩ := hcut
            have hdq := Lib.hid hdq0
            obtain ⟨⟨c0, c1, c2, c3⟩, -⟩ := blk4_cells hdq0.2.1
            obtain ⟨⟨p0, p1, p2, p3⟩, -⟩ := blk4_cells hdq0.2.2.1
            obtain ⟨⟨m0, m1, m2, m3, m4⟩, -⟩ := blk5_cells hdq0.1.2.1
            clear hdq0
            go_wp2_with fail
            go_cut [] from 42 to 55 (fun wx => ∃ v1, DQ W D B cs x y o1 (q + 2) v1 (k + 1) x0 wd y0 ht P x0 wd y0 n1 R x0 wd a2 b2 wx)
            case first =>
              try simp only [List.cons_append, List.nil_append, List.append_eq]
              refine wp_region_held_drew (S := (fun w' => w'.cell? ⟨D, 0, none⟩ = some (.int .i64 x) ∧ w'.cell? ⟨D, 1, none⟩ = some (.int .i64 y) ∧ w'.cell? ⟨W.heap.size, 0, none⟩ = some (.int .i64 (x0 : Int)) ∧ w'.cell? ⟨W.heap.size, 1, none⟩ = some (.int .i64 (wd : Int)) ∧ w'.cell? ⟨P, 2, none⟩ = some (.int .i64 (y0 : Int)) ∧ w'.cell? ⟨P, 3, none⟩ = some (.int .i64 n1))) (by kernel_rfl) ?_ (fun hHeld0 => ?_)
              · (try dsimp only); (first | exact ⟨(blk5_cells hq3.out.1.2.1).1.1, (blk5_cells hq3.out.1.2.1).1.2.1, (blk4_cells hq3.out.2.1).1.1, (blk4_cells hq3.out.2.1).1.2.1, (blk4_cells hq3.out.2.2.1).1.2.2.1, (blk4_cells hq3.out.2.2.1).1.2.2.2⟩ | exact ⟨(blk5_cells hq2.out.1.2.1).1.1, (blk5_cells hq2.out.1.2.1).1.2.1, (blk4_cells hq2.out.2.1).1.1, (blk4_cells hq2.out.2.1).1.2.1, (blk4_cells hq2.out.2.2.1).1.2.2.1, (blk4_cells hq2.out.2.2.1).1.2.2.2⟩ | exact ⟨(blk5_cells hq1.out.1.2.1).1.1, (blk5_cells hq1.out.1.2.1).1.2.1, (blk4_cells hq1.out.2.1).1.1, (blk4_cells hq1.out.2.1).1.2.1, (blk4_cells hq1.out.2.2.1).1.2.2.1, (blk4_cells hq1.out.2.2.1).1.2.2.2⟩ | exact ⟨(blk5_cells hdq.out.1.2.1).1.1, (blk5_cells hdq.out.1.2.1).1.2.1, (blk4_cells hdq.out.2.1).1.1, (blk4_cells hdq.out.2.1).1.2.1, (blk4_cells hdq.out.2.2.1).1.2.2.1, (blk4_cells hdq.out.2.2.1).1.2.2.2⟩)
              refine wpAnyH_take (i := 0) (oi := { dst := some 42, op := Go.Op.move (Go.Operand.tmp 0), type := 87, pos := "l17_grow.go:109", after := #[], guard := none }) (v := ?_) rfl (by kernel_rfl) (by kernel_rfl) (by kernel_rfl) (fun _ _ _ h => h) (Or.inl ⟨by rfl, ?_⟩) (by assumption) ?_
              rotate_left
              · (intro w hSw; (try dsimp only at hSw); go_simp; try with_reducible rfl)
              try simp only [Act.put, List.setIfInBounds_toArray, List.set_cons_zero, List.set_cons_succ]
              refine wpAnyH_take (i := 1) (oi := { dst := some 43, op := Go.Op.move (Go.Operand.tmp 0), type := 87, pos := "l17_grow.go:109", after := #[], guard := none }) (v := ?_) rfl (by kernel_rfl) (by kernel_rfl) (by kernel_rfl) (fun _ _ _ h => h) (Or.inl ⟨by rfl, ?_⟩) (by assumption) ?_
              rotate_left
              · (intro w hSw; (try dsimp only at hSw); go_simp; try with_reducible rfl)
              try simp only [Act.put, List.setIfInBounds_toArray, List.set_cons_zero, List.set_cons_succ]
              refine wpAnyH_take (i := 2) (oi := { dst := some 44, op := Go.Op.nilCheck (Go.Operand.tmp 43), type := 0, pos := "l17_grow.go:109", after := #[{ on := 1, ground := Go.Ground.data }], guard := none }) (v := ?_) rfl (by kernel_rfl) (by kernel_rfl) (by kernel_rfl) (fun _ _ _ h => h) (Or.inl ⟨by rfl, ?_⟩) (by assumption) ?_
              rotate_left
              · (intro w hSw; (try dsimp only at hSw); go_simp; try with_reducible rfl)
              try simp only [Act.put, List.setIfInBounds_toArray, List.set_cons_zero, List.set_cons_succ]
              refine wpAnyH_take (i := 3) (oi := { dst := some 45, op := Go.Op.fieldAddr 59 (Go.Operand.tmp 44) 0, type := 0, pos := "l17_grow.go:109", after := #[{ on := 2, ground := Go.Ground.data }], guard := none }) (v := ?_) rfl (by kernel_rfl) (by kernel_rfl) (by kernel_rfl) (fun _ _ _ h => h) (Or.inl ⟨by rfl, ?_⟩) (by assumption) ?_
              rotate_left
              · (intro w hSw; (try dsimp only at hSw); go_simp; try with_reducible rfl)
              try simp only [Act.put, List.setIfInBounds_toArray, List.set_cons_zero, List.set_cons_succ]
              refine wpAnyH_take (i := 4) (oi := { dst := some 46, op := Go.Op.fieldAddr 30 (Go.Operand.tmp 45) 0, type := 0, pos := "l17_grow.go:109", after := #[{ on := 3, ground := Go.Ground.data }], guard := none }) (v := ?_) rfl (by kernel_rfl) (by kernel_rfl) (by kernel_rfl) (fun _ _ _ h => h) (Or.inl ⟨by rfl, ?_⟩) (by assumption) ?_
              rotate_left
              · (intro w hSw; (try dsimp only at hSw); go_simp; try with_reducible rfl)
              try simp only [Act.put, List.setIfInBounds_toArray, List.set_cons_zero, List.set_cons_succ]
              refine wpAnyH_take (i := 5) (oi := { dst := some 47, op := Go.Op.load 25 (Go.Operand.tmp 46), type := 25, pos := "l17_grow.go:109", after := #[{ on := 4, ground := Go.Ground.data }], guard := none }) (v := ?_) rfl (by kernel_rfl) (by kernel_rfl) (by kernel_rfl) (fun _ _ _ h => h) (Or.inl ⟨by rfl, ?_⟩) (by assumption) ?_
              rotate_left
              · (intro w hSw; (try dsimp only at hSw); go_simp; try with_reducible rfl)
              try simp only [Act.put, List.setIfInBounds_toArray, List.set_cons_zero, List.set_cons_succ]
              refine wpAnyH_take (i := 6) (oi := { dst := some 48, op := Go.Op.fieldAddr 80 (Go.Operand.tmp 3) 0, type := 0, pos := "l17_grow.go:109", after := #[], guard := none }) (v := ?_) rfl (by kernel_rfl) (by kernel_rfl) (by kernel_rfl) (fun _ _ _ h => h) (Or.inl ⟨by rfl, ?_⟩) (by assumption) ?_
              rotate_left
              · (intro w hSw; (try dsimp only at hSw); go_simp; try with_reducible rfl)
              try simp only [Act.put, List.setIfInBounds_toArray, List.set_cons_zero, List.set_cons_succ]
              refine wpAnyH_take (i := 7) (oi := { dst := some 49, op := Go.Op.load 78 (Go.Operand.tmp 48), type := 78, pos := "l17_grow.go:109", after := #[{ on := 6, ground := Go.Ground.data }], guard := none }) (v := ?_) rfl (by kernel_rfl) (by kernel_rfl) (by kernel_rfl) (fun _ _ _ h => h) (Or.inl ⟨by rfl, ?_⟩) (by assumption) ?_
              rotate_left
              · (intro w hSw; (try dsimp only at hSw); go_simp; try with_reducible rfl)
              try simp only [Act.put, List.setIfInBounds_toArray, List.set_cons_zero, List.set_cons_succ]
              refine wpAnyH_take (i := 8) (oi := { dst := some 50, op := Go.Op.fieldAddr 80 (Go.Operand.tmp 4) 1, type := 0, pos := "l17_grow.go:109", after := #[], guard := none }) (v := ?_) rfl (by kernel_rfl) (by kernel_rfl) (by kernel_rfl) (fun _ _ _ h => h) (Or.inl ⟨by rfl, ?_⟩) (by assumption) ?_
              rotate_left
              · (intro w hSw; (try dsimp only at hSw); go_simp; try with_reducible rfl)
              try simp only [Act.put, List.setIfInBounds_toArray, List.set_cons_zero, List.set_cons_succ]
              refine wpAnyH_take (i := 9) (oi := { dst := some 51, op := Go.Op.load 78 (Go.Operand.tmp 50), type := 78, pos := "l17_grow.go:109", after := #[{ on := 8, ground := Go.Ground.data }], guard := none }) (v := ?_) rfl (by kernel_rfl) (by kernel_rfl) (by kernel_rfl) (fun _ _ _ h => h) (Or.inl ⟨by rfl, ?_⟩) (by assumption) ?_
              rotate_left
              · (intro w hSw; (try dsimp only at hSw); go_simp; try with_reducible rfl)
              try simp only [Act.put, List.setIfInBounds_toArray, List.set_cons_zero, List.set_cons_succ]
              refine wpAnyH_ready (rs := [10]) (by kernel_rfl) (by simp) ?_
              refine AllReadyH.cons (o := { dst := some 52, op := Go.Op.call { callee := Go.Callee.value (Go.Operand.func 65), args := #[Go.Operand.tmp 51], argTypes := #[78] }, type := 78, pos := "l17_grow.go:109", after := #[{ on := 9, ground := Go.Ground.data }], guard := none }) rfl (fun K10 hK10 => ?_) AllReadyH.nil
              go_simp
              (refine (HLa.out _).mono ?_; rintro e v1 ⟨rfl, hb1⟩; have hq1 := Lib.hid (hdq.out.dr.call hb1))
              go_wp2_with fail
              refine hK10.out _ _ ?_ (fun hHeld1 => ?_)
              · (try dsimp only); (first | exact ⟨(blk5_cells hq3.out.1.2.1).1.1, (blk5_cells hq3.out.1.2.1).1.2.1, (blk4_cells hq3.out.2.1).1.1, (blk4_cells hq3.out.2.1).1.2.1, (blk4_cells hq3.out.2.2.1).1.2.2.1, (blk4_cells hq3.out.2.2.1).1.2.2.2⟩ | exact ⟨(blk5_cells hq2.out.1.2.1).1.1, (blk5_cells hq2.out.1.2.1).1.2.1, (blk4_cells hq2.out.2.1).1.1, (blk4_cells hq2.out.2.1).1.2.1, (blk4_cells hq2.out.2.2.1).1.2.2.1, (blk4_cells hq2.out.2.2.1).1.2.2.2⟩ | exact ⟨(blk5_cells hq1.out.1.2.1).1.1, (blk5_cells hq1.out.1.2.1).1.2.1, (blk4_cells hq1.out.2.1).1.1, (blk4_cells hq1.out.2.1).1.2.1, (blk4_cells hq1.out.2.2.1).1.2.2.1, (blk4_cells hq1.out.2.2.1).1.2.2.2⟩ | exact ⟨(blk5_cells hdq.out.1.2.1).1.1, (blk5_cells hdq.out.1.2.1).1.2.1, (blk4_cells hdq.out.2.1).1.1, (blk4_cells hdq.out.2.1).1.2.1, (blk4_cells hdq.out.2.2.1).1.2.2.1, (blk4_cells hdq.out.2.2.1).1.2.2.2⟩)
              clear hK10 K10 hHeld0
              try simp only [Act.put, List.setIfInBounds_toArray, List.set_cons_zero, List.set_cons_succ]
              refine wpAnyH_take (i := 11) (oi := { dst := some 53, op := Go.Op.build 80 #[(0, Go.Operand.tmp 49), (1, Go.Operand.tmp 52)], type := 80, pos := "l17_grow.go:109", after := #[{ on := 7, ground := Go.Ground.data }, { on := 10, ground := Go.Ground.data }], guard := none }) (v := ?_) rfl (by kernel_rfl) (by kernel_rfl) (by kernel_rfl) (fun _ _ _ h => h) (Or.inl ⟨by rfl, ?_⟩) (by assumption) ?_
              rotate_left
              · (intro w hSw; (try dsimp only at hSw); go_simp; try with_reducible rfl)
              try simp only [Act.put, List.setIfInBounds_toArray, List.set_cons_zero, List.set_cons_succ]
              refine wpAnyH_ready (rs := [12]) (by kernel_rfl) (by simp) ?_
              refine AllReadyH.cons (o := { dst := some 54, op := Go.Op.call { callee := Go.Callee.value (Go.Operand.func 64), args := #[Go.Operand.tmp 47, Go.Operand.tmp 53], argTypes := #[25, 80] }, type := 26, pos := "l17_grow.go:109", after := #[{ on := 5, ground := Go.Ground.data }, { on := 11, ground := Go.Ground.data }, { on := 10, ground := Go.Ground.chain }], guard := none }) rfl (fun K12 hK12 => ?_) AllReadyH.nil
              go_simp
              (refine (HCe.out _).mono ?_; rintro e v2 ⟨vv, rfl, ho, hb2⟩; have ho' := own_base ho (show D + 1 ≤ _ by have := hq1.out.1.size; have := hq1.out.1.2.2.2.2; omega); have hq2 := Lib.hid (hq1.out.call hb2); rw [HLl.out] at ho'; obtain ⟨g, c, rfl, -, -⟩ := own_some ho' (by omega); have HO' := Lib.hid ho'; clear ho ho')
              go_wp2_with fail
              refine hK12.out _ _ ?_ (fun hHeld2 => ?_)
              · (try dsimp only); (first | exact ⟨(blk5_cells hq3.out.1.2.1).1.1, (blk5_cells hq3.out.1.2.1).1.2.1, (blk4_cells hq3.out.2.1).1.1, (blk4_cells hq3.out.2.1).1.2.1, (blk4_cells hq3.out.2.2.1).1.2.2.1, (blk4_cells hq3.out.2.2.1).1.2.2.2⟩ | exact ⟨(blk5_cells hq2.out.1.2.1).1.1, (blk5_cells hq2.out.1.2.1).1.2.1, (blk4_cells hq2.out.2.1).1.1, (blk4_cells hq2.out.2.1).1.2.1, (blk4_cells hq2.out.2.2.1).1.2.2.1, (blk4_cells hq2.out.2.2.1).1.2.2.2⟩ | exact ⟨(blk5_cells hq1.out.1.2.1).1.1, (blk5_cells hq1.out.1.2.1).1.2.1, (blk4_cells hq1.out.2.1).1.1, (blk4_cells hq1.out.2.1).1.2.1, (blk4_cells hq1.out.2.2.1).1.2.2.1, (blk4_cells hq1.out.2.2.1).1.2.2.2⟩ | exact ⟨(blk5_cells hdq.out.1.2.1).1.1, (blk5_cells hdq.out.1.2.1).1.2.1, (blk4_cells hdq.out.2.1).1.1, (blk4_cells hdq.out.2.1).1.2.1, (blk4_cells hdq.out.2.2.1).1.2.2.1, (blk4_cells hdq.out.2.2.1).1.2.2.2⟩)
              clear hK12 K12 hHeld1
              try simp only [Act.put, List.setIfInBounds_toArray, List.set_cons_zero, List.set_cons_succ]
              refine wpAnyH_ready (rs := [13]) (by kernel_rfl) (by simp) ?_
              refine AllReadyH.cons (o := { dst := some 55, op := Go.Op.call { callee := Go.Callee.value (Go.Operand.func 63), args := #[Go.Operand.tmp 42, Go.Operand.tmp 54, Go.Operand.const (Go.Value.int Go.IntKind.i64 2)], argTypes := #[87, 26, 3] }, type := 0, pos := "l17_grow.go:109", after := #[{ on := 0, ground := Go.Ground.data }, { on := 12, ground := Go.Ground.data }, { on := 12, ground := Go.Ground.chain }], guard := none }) rfl (fun K13 hK13 => ?_) AllReadyH.nil
              go_simp
              (refine (HSw1.out _ _ _ _ hq2.out.1.2.1 hq2.out.1.2.2.1 HO'.out).mono ?_; rintro e v3 ⟨rfl, v4, hz⟩; have hq3 := Lib.hid (hq2.out.sub hz))
              go_wp2_with fail
              refine hK13.out _ _ ?_ (fun hHeld3 => ?_)
              · (try dsimp only); (first | exact ⟨(blk5_cells hq3.out.1.2.1).1.1, (blk5_cells hq3.out.1.2.1).1.2.1, (blk4_cells hq3.out.2.1).1.1, (blk4_cells hq3.out.2.1).1.2.1, (blk4_cells hq3.out.2.2.1).1.2.2.1, (blk4_cells hq3.out.2.2.1).1.2.2.2⟩ | exact ⟨(blk5_cells hq2.out.1.2.1).1.1, (blk5_cells hq2.out.1.2.1).1.2.1, (blk4_cells hq2.out.2.1).1.1, (blk4_cells hq2.out.2.1).1.2.1, (blk4_cells hq2.out.2.2.1).1.2.2.1, (blk4_cells hq2.out.2.2.1).1.2.2.2⟩ | exact ⟨(blk5_cells hq1.out.1.2.1).1.1, (blk5_cells hq1.out.1.2.1).1.2.1, (blk4_cells hq1.out.2.1).1.1, (blk4_cells hq1.out.2.1).1.2.1, (blk4_cells hq1.out.2.2.1).1.2.2.1, (blk4_cells hq1.out.2.2.1).1.2.2.2⟩ | exact ⟨(blk5_cells hdq.out.1.2.1).1.1, (blk5_cells hdq.out.1.2.1).1.2.1, (blk4_cells hdq.out.2.1).1.1, (blk4_cells hdq.out.2.1).1.2.1, (blk4_cells hdq.out.2.2.1).1.2.2.1, (blk4_cells hdq.out.2.2.1).1.2.2.2⟩)
              clear hK13 K13 hHeld2
              try simp only [Act.put, List.setIfInBounds_toArray, List.set_cons_zero, List.set_cons_succ]
              refine wpAnyH_done (by kernel_rfl) ?_ _
              (go_wp2_with fail; go_meet; exact ⟨_, hq3.out⟩)
            case rest =>
              clear c0 c1 c2 c3 p0 p1 p2 p3 m0 m1 m2 m3 m4 hdq HLa HCe HSw1 HLl
              obtain ⟨v1', hdq0⟩ := hcut
              have hdq := Lib.hid hdq0
              obtain ⟨⟨p0, p1, p2, p3⟩, -⟩ := blk4_cells hdq0.2.2.1
              clear hdq0
              go_wp2_with fail
              refine (HI1.out _ _ hdq.out.1.2.1 hdq.out.1.2.2.1).mono ?_
              rintro e w3 ⟨rfl, v3, t1, hz, hq2⟩
              have hdq3 := Lib.hid (hdq.out.sub hz)
              have Hq2 := Lib.hid hq2
              clear hz hq2 p0 p1 p2 p3 hdq
              obtain ⟨⟨p0, p1, p2, p3⟩, -⟩ := blk4_cells hdq3.out.2.2.2.1
              go_wp2_with fail
              refine (HI2.out _ t1 _ Hq2.out hdq3.out.1.2.1 hdq3.out.1.2.2.1).mono ?_
              rintro e w4 ⟨rfl, v4, t2, hz, hq3⟩
              have HF : Hid (DvR W D B cs x y q k s2 (.returned (.tuple #[])) w4) := Lib.hid ⟨rfl, v4, 1 + t1 + t2, by
                have e : k + ((1 + t1 + t2 : Nat) : Int) = k + 1 + (t1 : Int) + (t2 : Int) := by omega
                rw [e]; exact hdq3.out.1.sub hz, by rw [hq3]; have := Hq2.out; omega⟩
              clear hz hq3
              go_wp2_with fail
              refine bodyPost_end (results_none rfl _ _ _) rfl ?_
              exact HF.out
      · have hli : ¬ (wd : Int) ≤ (ht : Int) := by omega
        have hrl := Nat.mod_lt (chZ cs q).toNat (show 0 < wd - 1 by omega)
        have hpl := Nat.mod_lt (chZ cs (q + 1)).toNat (show 0 < ht by omega)
        have HE := Lib.hid (@dv_cols x y cs f o q x0 y0 wd ht hb hl _ _ rfl rfl)
        have HNe : Hid (∀ v X, X.cell? ⟨D, 3, none⟩ = some v → X.frozen? ⟨D, 3, none⟩ = false → ChV X B cs q v → Calls Try.prog 27 #[.pointer (some ⟨D, 3, none⟩), .int .i64 ((wd : Int) - 1)] X fun e w' => e = .returned (.int .i64 (((chZ cs q).toNat % (wd - 1) : Nat) : Int)) ∧ NxP ⟨D, 3, none⟩ B cs q v X w') := Lib.hid fun v X e1 e2 e3 => by
          have := next_any D 3 q (wd - 1) B cs v X e1 e2 e3 (by omega) (by omega)
          rwa [show (((wd - 1 : Nat) : Nat) : Int) = (wd : Int) - 1 by omega] at this
        have HSw := Lib.hid (fun L g c v o d (X : World) e1 e2 e3 e4 => setWall_any x y D B (q + 1) ht c ((chZ cs (q + 1)).toNat % ht) g cs L v o k d X e1 e2 hB e3 (by omega) e4 (by omega) rfl)
        generalize (chZ cs q).toNat % (wd - 1) = r at *
        generalize (chZ cs (q + 1)).toNat % ht = p at *
        have hmu : wd * ht = (r + 1) * ht + (wd - r - 1) * ht := by rw [← Nat.add_mul]; congr 1; omega
        have hm1 : 1 ≤ (wd - r - 1) * ht := Nat.mul_pos (by omega) (by omega)
        have hus := dv_used (x := x) (y := y) (cs := cs) f (wlV x y o (x0 + r) y0 p ht) (q + 2) x0 y0 (r + 1) ht (by omega) (by omega)
        have HO1 : Hid (swF x y o (rcL x (x0 + r) y0 1 ht) 1 p ht = wlV x y o (x0 + r) y0 p ht) := Lib.hid (sw_col x y o (x0 + r) y0 ht p ht (Nat.le_refl _))
        have HLl : Hid ((rcL x (x0 + r) y0 1 ht).length = ht) := Lib.hid (by rw [rcL_len, Nat.mul_one])
        obtain ⟨R0, hR0⟩ : ∃ R0 : Int, R0 = ((x0 + r : Nat) : Int) := ⟨_, rfl⟩
        obtain ⟨n1, hn1⟩ : ∃ n1 : Int, n1 = ((r + 1 : Nat) : Int) := ⟨_, rfl⟩
        obtain ⟨a2, ha2⟩ : ∃ a2 : Int, a2 = ((x0 + r + 1 : Nat) : Int) := ⟨_, rfl⟩
        obtain ⟨b2, hb2⟩ : ∃ b2 : Int, b2 = ((wd - r - 1 : Nat) : Int) := ⟨_, rfl⟩
        have HCe : Hid (∀ X, Calls Try.prog 64 #[.agg #[.int .i64 x, .int .i64 y], .agg #[.int .i64 R0, .int .i64 1, .int .i64 (y0 : Int), .int .i64 (ht : Int)]] X (Ints (rcL x (x0 + r) y0 1 ht) X)) := Lib.hid fun X => by rw [hR0]; exact cellsOf_any x y (x0 + r) 1 y0 ht X ⟨by omega, hk.2.1⟩ (by omega) (by omega)
        have HCut : Hid (∀ X, Calls Try.prog 62 #[.agg #[.int .i64 (x0 : Int), .int .i64 (wd : Int)], .int .i64 (1 + (r : Int))] X (Spn2 (x0 : Int) n1 a2 b2 X)) := Lib.hid fun X => by
          have := cut_any (x0 : Int) (wd : Int) (1 + (r : Int)) X (by omega) (by omega) (by omega)
          rwa [show (x0 : Int) + (1 + (r : Int)) = a2 by omega, show (wd : Int) - (1 + (r : Int)) = b2 by omega, show Spn2 (x0 : Int) (1 + (r : Int)) a2 b2 X = Spn2 (x0 : Int) n1 a2 b2 X by rw [show 1 + (r : Int) = n1 by omega]] at this
        have HLa : Hid (∀ X, Calls Try.prog 65 #[.agg #[.int .i64 (x0 : Int), .int .i64 n1]] X (Spn R0 1 X)) := Lib.hid fun X => by
          have := last_any (x0 : Int) n1 X (by omega) (by omega)
          rwa [show (x0 : Int) + n1 - 1 = R0 by omega] at this
        have HI1 : Hid (∀ v X, Blk D #[.int .i64 x, .int .i64 y, .int .i64 (wlV x y o (x0 + r) y0 p ht), v, .int .i64 (k + 1)] X → ChV X B cs (q + 2) v → Calls Try.prog 52 #[.pointer (some ⟨D, 0, none⟩), .agg #[.int .i64 (x0 : Int), .int .i64 n1, .int .i64 (y0 : Int), .int .i64 (ht : Int)]] X (DvR X D B cs x y (q + 2) (k + 1) (dvF x y cs f (wlV x y o (x0 + r) y0 p ht, q + 2) x0 y0 (r + 1) ht))) := Lib.hid fun v X g1 g2 =>
          ih _ (q + 2) x0 y0 (r + 1) ht v (k + 1) _ _ _ _ X rfl rfl (by omega) rfl g1 g2 (by omega) (by omega) (by omega) (by omega) (by omega) (by omega) (by omega)
        generalize hL : rcL x (x0 + r) y0 1 ht = L at *
        generalize wlV x y o (x0 + r) y0 p ht = o1 at *
        generalize hs1 : dvF x y cs f (o1, q + 2) x0 y0 (r + 1) ht = s1 at *
        obtain ⟨o2, q2⟩ := s1
        simp only at hus
        have HI2 : Hid (∀ v t1 X, q2 = q + 2 + 2 * t1 → Blk D #[.int .i64 x, .int .i64 y, .int .i64 o2, v, .int .i64 (k + 1 + (t1 : Int))] X → ChV X B cs q2 v → Calls Try.prog 52 #[.pointer (some ⟨D, 0, none⟩), .agg #[.int .i64 a2, .int .i64 b2, .int .i64 (y0 : Int), .int .i64 (ht : Int)]] X (DvR X D B cs x y q2 (k + 1 + (t1 : Int)) (dvF x y cs f (o2, q2) (x0 + r + 1) y0 (wd - r - 1) ht))) := Lib.hid fun v t1 X g0 g1 g2 =>
          ih _ q2 (x0 + r + 1) y0 (wd - r - 1) ht v (k + 1 + (t1 : Int)) _ _ _ _ X (by omega) rfl (by omega) rfl g1 g2 (by omega) (by omega) (by omega) (by omega) (by omega) (by omega) (by omega)
        have HE2 : Hid (dvF x y cs (f + 1) (o, q) x0 y0 wd ht = dvF x y cs f (o2, q2) (x0 + r + 1) y0 (wd - r - 1) ht) := Lib.hid HE.out
        generalize dvF x y cs f (o2, q2) (x0 + r + 1) y0 (wd - r - 1) ht = s2 at *
        rw [HE2.out]
        have HSw1 : Hid (∀ g c v X, Blk D #[.int .i64 x, .int .i64 y, .int .i64 o, v, .int .i64 k] X → ChV X B cs (q + 1) v → X.ownsRow (D + 1) 3 1 (.slice (some ⟨g, 0, none⟩) ht c) ht (icells L) → Calls Try.prog 63 #[.pointer (some ⟨D, 0, none⟩), .slice (some ⟨g, 0, none⟩) ht c, .int .i64 1] X fun e w' => e = .returned (.tuple #[]) ∧ ∃ v', DZ X D B cs x y o1 (q + 2) v' (k + 1) w') := Lib.hid fun g c v X e1 e2 e3 => by
          have := HSw.out L g c v o 1 X e1 e2 HLl.out e3
          rwa [HO1.out] at this
        have hw0 : IntKind.i64.wrap ((wd : Int) - 1) = (wd : Int) - 1 := IntWalk.i64_in _ (by omega)
        have hw1 : IntKind.i64.wrap (1 + (r : Int)) = 1 + (r : Int) := IntWalk.i64_in _ (by omega)
        have HT : Hid (∀ T T' T'', DQ W D B cs x y o q v k x0 wd y0 ht (W.heap.size + 1) x0 wd y0 ht (W.heap.size + 1 + 1) x0 wd y0 ht (((W.alloc (.cells #[.int .i64 (x0 : Int), .int .i64 (wd : Int), .int .i64 (y0 : Int), .int .i64 (ht : Int)] T)).alloc (.cells #[.int .i64 (x0 : Int), .int .i64 (wd : Int), .int .i64 (y0 : Int), .int .i64 (ht : Int)] T')).alloc (.cells #[.int .i64 (x0 : Int), .int .i64 (wd : Int), .int .i64 (y0 : Int), .int .i64 (ht : Int)] T'')).drew ∧
            DQ W D B cs x y o q v k x0 wd y0 ht (W.heap.size + 1 + 1) x0 wd y0 ht (W.heap.size + 1) x0 wd y0 ht (((W.alloc (.cells #[.int .i64 (x0 : Int), .int .i64 (wd : Int), .int .i64 (y0 : Int), .int .i64 (ht : Int)] T)).alloc (.cells #[.int .i64 (x0 : Int), .int .i64 (wd : Int), .int .i64 (y0 : Int), .int .i64 (ht : Int)] T')).alloc (.cells #[.int .i64 (x0 : Int), .int .i64 (wd : Int), .int .i64 (y0 : Int), .int .i64 (ht : Int)] T'')).drew) := Lib.hid fun T T' T'' => by
          have h := dq_two (hdz0.out T).1 (hdz0.out T).2 T' T''
          have e : (W.alloc (.cells #[.int .i64 (x0 : Int), .int .i64 (wd : Int), .int .i64 (y0 : Int), .int .i64 (ht : Int)] T)).heap.size = W.heap.size + 1 := by simp
          rw [e] at h
          exact ⟨h.1.dr, h.2.dr⟩
        clear ih h6 hb HE HE2 hs1 hmu hm1 hus hL HSw HO1 hdz0 hR0 hn1 ha2 hb2
        go_enter Try.func52, Try.ntmps52
        go_wp2_with fail
        go_cut [4, 5] from 16 to 17 (fun u4 u5 wx => ∃ P R : Nat, u4 = .pointer (some ⟨P, 0, none⟩) ∧ u5 = .pointer (some ⟨R, 0, none⟩) ∧ DQ W D B cs x y o q v k x0 wd y0 ht P x0 wd y0 ht R x0 wd y0 ht wx)
        case first =>
          go_region
          all_goals (go_wp2_with fail; go_meet; first | exact ⟨_, _, rfl, rfl, (HT.out _ _ _).1⟩ | exact ⟨_, _, rfl, rfl, (HT.out _ _ _).2⟩)
        case rest =>
          clear HT
          obtain ⟨P, R, rfl, rfl, hdq0⟩ := hcut
          have hdq := Lib.hid hdq0
          obtain ⟨hPR, hWP, hWR⟩ := hdq0.2.2.2.2
          have hRP : R ≠ P := fun e => hPR e.symm
          have hPW : P ≠ W.heap.size := by omega
          have hRW : R ≠ W.heap.size := by omega
          obtain ⟨⟨c0, c1, c2, c3⟩, -⟩ := blk4_cells hdq0.2.1
          clear hdq0
          go_wp2_with fail
          go_cut [] from 56 to 72 (fun wx => ∃ v1, DQ W D B cs x y o (q + 1) v1 k x0 wd y0 ht P x0 n1 y0 ht R a2 b2 y0 ht wx)
          case first =>
            try simp only [List.cons_append, List.nil_append, List.append_eq]
            refine wp_region_held_drew (S := (fun w' => w'.cell? ⟨W.heap.size, 0, none⟩ = some (.int .i64 (x0 : Int)) ∧ w'.cell? ⟨W.heap.size, 1, none⟩ = some (.int .i64 (wd : Int)) ∧ w'.cell? ⟨W.heap.size, 2, none⟩ = some (.int .i64 (y0 : Int)) ∧ w'.cell? ⟨W.heap.size, 3, none⟩ = some (.int .i64 (ht : Int)))) (by kernel_rfl) ?_ (fun hHeld0 => ?_)
            · (try dsimp only); (first | exact (blk4_cells ((hq2.out.c1 x0 n1).c2 a2 b2).2.1).1 | exact (blk4_cells ((hq2.out.c2 a2 b2).c1 x0 n1).2.1).1 | exact (blk4_cells (hq2.out.c1 x0 n1).2.1).1 | exact (blk4_cells (hq2.out.c2 a2 b2).2.1).1 | exact (blk4_cells hq2.out.2.1).1 | exact (blk4_cells hq1.out.2.1).1 | go_keep)
            refine wpAnyH_take (i := 0) (oi := { dst := some 57, op := Go.Op.fieldAddr 80 (Go.Operand.tmp 3) 0, type := 0, pos := "l17_grow.go:111", after := #[], guard := none }) (v := ?_) rfl (by kernel_rfl) (by kernel_rfl) (by kernel_rfl) (fun _ _ _ h => h) (Or.inl ⟨by rfl, ?_⟩) (by assumption) ?_
            rotate_left
            · (intro w hSw; (try dsimp only at hSw); go_simp; try with_reducible rfl)
            try simp only [Act.put, List.setIfInBounds_toArray, List.set_cons_zero, List.set_cons_succ]
            refine wpAnyH_take (i := 1) (oi := { dst := some 58, op := Go.Op.load 78 (Go.Operand.tmp 57), type := 78, pos := "l17_grow.go:111", after := #[{ on := 0, ground := Go.Ground.data }], guard := none }) (v := ?_) rfl (by kernel_rfl) (by kernel_rfl) (by kernel_rfl) (fun _ _ _ h => h) (Or.inl ⟨by rfl, ?_⟩) (by assumption) ?_
            rotate_left
            · (intro w hSw; (try dsimp only at hSw); go_simp; try with_reducible rfl)
            try simp only [Act.put, List.setIfInBounds_toArray, List.set_cons_zero, List.set_cons_succ]
            refine wpAnyH_take (i := 2) (oi := { dst := some 59, op := Go.Op.move (Go.Operand.tmp 0), type := 87, pos := "l17_grow.go:111", after := #[], guard := none }) (v := ?_) rfl (by kernel_rfl) (by kernel_rfl) (by kernel_rfl) (fun _ _ _ h => h) (Or.inl ⟨by rfl, ?_⟩) (by assumption) ?_
            rotate_left
            · (intro w hSw; (try dsimp only at hSw); go_simp; try with_reducible rfl)
            try simp only [Act.put, List.setIfInBounds_toArray, List.set_cons_zero, List.set_cons_succ]
            refine wpAnyH_take (i := 3) (oi := { dst := some 60, op := Go.Op.nilCheck (Go.Operand.tmp 59), type := 0, pos := "l17_grow.go:111", after := #[{ on := 2, ground := Go.Ground.data }], guard := none }) (v := ?_) rfl (by kernel_rfl) (by kernel_rfl) (by kernel_rfl) (fun _ _ _ h => h) (Or.inl ⟨by rfl, ?_⟩) (by assumption) ?_
            rotate_left
            · (intro w hSw; (try dsimp only at hSw); go_simp; try with_reducible rfl)
            try simp only [Act.put, List.setIfInBounds_toArray, List.set_cons_zero, List.set_cons_succ]
            refine wpAnyH_take (i := 4) (oi := { dst := some 61, op := Go.Op.fieldAddr 59 (Go.Operand.tmp 60) 1, type := 0, pos := "l17_grow.go:111", after := #[{ on := 3, ground := Go.Ground.data }], guard := none }) (v := ?_) rfl (by kernel_rfl) (by kernel_rfl) (by kernel_rfl) (fun _ _ _ h => h) (Or.inl ⟨by rfl, ?_⟩) (by assumption) ?_
            rotate_left
            · (intro w hSw; (try dsimp only at hSw); go_simp; try with_reducible rfl)
            try simp only [Act.put, List.setIfInBounds_toArray, List.set_cons_zero, List.set_cons_succ]
            refine wpAnyH_take (i := 5) (oi := { dst := some 62, op := Go.Op.fieldAddr 80 (Go.Operand.tmp 3) 0, type := 0, pos := "l17_grow.go:111", after := #[], guard := none }) (v := ?_) rfl (by kernel_rfl) (by kernel_rfl) (by kernel_rfl) (fun _ _ _ h => h) (Or.inl ⟨by rfl, ?_⟩) (by assumption) ?_
            rotate_left
            · (intro w hSw; (try dsimp only at hSw); go_simp; try with_reducible rfl)
            try simp only [Act.put, List.setIfInBounds_toArray, List.set_cons_zero, List.set_cons_succ]
            refine wpAnyH_take (i := 6) (oi := { dst := some 63, op := Go.Op.fieldAddr 78 (Go.Operand.tmp 62) 1, type := 0, pos := "l17_grow.go:111", after := #[{ on := 5, ground := Go.Ground.data }], guard := none }) (v := ?_) rfl (by kernel_rfl) (by kernel_rfl) (by kernel_rfl) (fun _ _ _ h => h) (Or.inl ⟨by rfl, ?_⟩) (by assumption) ?_
            rotate_left
            · (intro w hSw; (try dsimp only at hSw); go_simp; try with_reducible rfl)
            try simp only [Act.put, List.setIfInBounds_toArray, List.set_cons_zero, List.set_cons_succ]
            refine wpAnyH_take (i := 7) (oi := { dst := some 64, op := Go.Op.load 3 (Go.Operand.tmp 63), type := 3, pos := "l17_grow.go:111", after := #[{ on := 6, ground := Go.Ground.data }], guard := none }) (v := ?_) rfl (by kernel_rfl) (by kernel_rfl) (by kernel_rfl) (fun _ _ _ h => h) (Or.inl ⟨by rfl, ?_⟩) (by assumption) ?_
            rotate_left
            · (intro w hSw; (try dsimp only at hSw); go_simp; try with_reducible rfl)
            try simp only [Act.put, List.setIfInBounds_toArray, List.set_cons_zero, List.set_cons_succ]
            refine wpAnyH_take (i := 8) (oi := { dst := some 65, op := Go.Op.binOp Go.BinOp.sub 3 (Go.Operand.tmp 64) (Go.Operand.const (Go.Value.int Go.IntKind.i64 1)) 3, type := 3, pos := "l17_grow.go:111", after := #[{ on := 7, ground := Go.Ground.data }], guard := none }) (v := ?_) rfl (by kernel_rfl) (by kernel_rfl) (by kernel_rfl) (fun _ _ _ h => h) (Or.inl ⟨by rfl, ?_⟩) (by assumption) ?_
            rotate_left
            · (intro w hSw; (try dsimp only at hSw); go_simp; try with_reducible rfl)
            try simp only [Act.put, List.setIfInBounds_toArray, List.set_cons_zero, List.set_cons_succ]
            refine wpAnyH_ready (rs := [9]) (by kernel_rfl) (by simp) ?_
            refine AllReadyH.cons (o := { dst := some 66, op := Go.Op.call { callee := Go.Callee.value (Go.Operand.func 27), args := #[Go.Operand.tmp 61, Go.Operand.tmp 65], argTypes := #[50, 3] }, type := 3, pos := "l17_grow.go:111", after := #[{ on := 4, ground := Go.Ground.data }, { on := 8, ground := Go.Ground.data }], guard := none }) rfl (fun K9 hK9 => ?_) AllReadyH.nil
            go_simp
            (refine (HNe.out _ _ (blk5_cells hdq.out.dr.1.2.1).1.2.2.2.1 (blk_froz hdq.out.dr.1.2.1 3) hdq.out.dr.1.2.2.1).mono ?_; rintro e v1 ⟨rfl, hx⟩; obtain ⟨v1', hq1'⟩ := hdq.out.dr.next hx; have hq1 := Lib.hid hq1'; clear hq1' hx)
            go_wp2_with fail
            refine hK9.out _ _ ?_ (fun hHeld1 => ?_)
            · (try dsimp only); (first | exact (blk4_cells ((hq2.out.c1 x0 n1).c2 a2 b2).2.1).1 | exact (blk4_cells ((hq2.out.c2 a2 b2).c1 x0 n1).2.1).1 | exact (blk4_cells (hq2.out.c1 x0 n1).2.1).1 | exact (blk4_cells (hq2.out.c2 a2 b2).2.1).1 | exact (blk4_cells hq2.out.2.1).1 | exact (blk4_cells hq1.out.2.1).1 | go_keep)
            clear hK9 K9 hHeld0
            try simp only [Act.put, List.setIfInBounds_toArray, List.set_cons_zero, List.set_cons_succ]
            refine wpAnyH_take (i := 10) (oi := { dst := some 67, op := Go.Op.binOp Go.BinOp.add 3 (Go.Operand.const (Go.Value.int Go.IntKind.i64 1)) (Go.Operand.tmp 66) 3, type := 3, pos := "l17_grow.go:111", after := #[{ on := 9, ground := Go.Ground.data }], guard := none }) (v := ?_) rfl (by kernel_rfl) (by kernel_rfl) (by kernel_rfl) (fun _ _ _ h => h) (Or.inl ⟨by rfl, ?_⟩) (by assumption) ?_
            rotate_left
            · (intro w hSw; (try dsimp only at hSw); go_simp; try with_reducible rfl)
            try simp only [Act.put, List.setIfInBounds_toArray, List.set_cons_zero, List.set_cons_succ]
            refine wpAnyH_ready (rs := [11]) (by kernel_rfl) (by simp) ?_
            refine AllReadyH.cons (o := { dst := some 68, op := Go.Op.call { callee := Go.Callee.value (Go.Operand.func 62), args := #[Go.Operand.tmp 58, Go.Operand.tmp 67], argTypes := #[78, 3] }, type := 88, pos := "l17_grow.go:111", after := #[{ on := 1, ground := Go.Ground.data }, { on := 10, ground := Go.Ground.data }, { on := 9, ground := Go.Ground.chain }], guard := none }) rfl (fun K11 hK11 => ?_) AllReadyH.nil
            go_simp
            (refine (HCut.out _).mono ?_; rintro e v2 ⟨rfl, hb2⟩; have hq2 := Lib.hid (hq1.out.call hb2); obtain ⟨⟨p0, p1, p2, p3⟩, e0, e1, e2, e3⟩ := blk4_cells hq2.out.2.2.1; obtain ⟨⟨r0, r1, r2, r3⟩, g0, g1, g2, g3⟩ := blk4_cells hq2.out.2.2.2.1)
            go_wp2_with fail
            refine hK11.out _ _ ?_ (fun hHeld2 => ?_)
            · (try dsimp only); (first | exact (blk4_cells ((hq2.out.c1 x0 n1).c2 a2 b2).2.1).1 | exact (blk4_cells ((hq2.out.c2 a2 b2).c1 x0 n1).2.1).1 | exact (blk4_cells (hq2.out.c1 x0 n1).2.1).1 | exact (blk4_cells (hq2.out.c2 a2 b2).2.1).1 | exact (blk4_cells hq2.out.2.1).1 | exact (blk4_cells hq1.out.2.1).1 | go_keep)
            clear hK11 K11 hHeld1
            try simp only [Act.put, List.setIfInBounds_toArray, List.set_cons_zero, List.set_cons_succ]
            refine wpAnyH_take (i := 12) (oi := { dst := some 56, op := Go.Op.move (Go.Operand.tmp 68), type := 88, pos := "l17_grow.go:111", after := #[{ on := 11, ground := Go.Ground.data }], guard := none }) (v := ?_) rfl (by kernel_rfl) (by kernel_rfl) (by kernel_rfl) (fun _ _ _ h => h) (Or.inl ⟨by rfl, ?_⟩) (by assumption) ?_
            rotate_left
            · (intro w hSw; (try dsimp only at hSw); go_simp; try with_reducible rfl)
            try simp only [Act.put, List.setIfInBounds_toArray, List.set_cons_zero, List.set_cons_succ]
            refine wpAnyH_take (i := 13) (oi := { dst := some 69, op := Go.Op.extract (Go.Operand.tmp 56) 0, type := 78, pos := "l17_grow.go:111", after := #[{ on := 12, ground := Go.Ground.data }], guard := none }) (v := ?_) rfl (by kernel_rfl) (by kernel_rfl) (by kernel_rfl) (fun _ _ _ h => h) (Or.inl ⟨by rfl, ?_⟩) (by assumption) ?_
            rotate_left
            · (intro w hSw; (try dsimp only at hSw); go_simp; try with_reducible rfl)
            try simp only [Act.put, List.setIfInBounds_toArray, List.set_cons_zero, List.set_cons_succ]
            refine wpAnyH_take (i := 14) (oi := { dst := some 70, op := Go.Op.extract (Go.Operand.tmp 56) 1, type := 78, pos := "l17_grow.go:111", after := #[{ on := 12, ground := Go.Ground.data }, { on := 16, ground := Go.Ground.gcOnly Go.Departure.lateStores }], guard := none }) (v := ?_) rfl (by kernel_rfl) (by kernel_rfl) (by kernel_rfl) (fun _ _ _ h => h) (Or.inl ⟨by rfl, ?_⟩) (by assumption) ?_
            rotate_left
            · (intro w hSw; (try dsimp only at hSw); go_simp; try with_reducible rfl)
            try simp only [Act.put, List.setIfInBounds_toArray, List.set_cons_zero, List.set_cons_succ]
            refine wpAnyH_take (i := 15) (oi := { dst := some 71, op := Go.Op.fieldAddr 80 (Go.Operand.tmp 4) 0, type := 0, pos := "l17_grow.go:111", after := #[{ on := 0, ground := Go.Ground.phase }, { on := 1, ground := Go.Ground.phase }, { on := 2, ground := Go.Ground.phase }, { on := 3, ground := Go.Ground.phase }, { on := 4, ground := Go.Ground.phase }, { on := 5, ground := Go.Ground.phase }, { on := 6, ground := Go.Ground.phase }, { on := 7, ground := Go.Ground.phase }, { on := 8, ground := Go.Ground.phase }, { on := 9, ground := Go.Ground.phase }, { on := 10, ground := Go.Ground.phase }, { on := 11, ground := Go.Ground.phase }, { on := 12, ground := Go.Ground.phase }, { on := 13, ground := Go.Ground.phase }, { on := 14, ground := Go.Ground.textOnly Go.Departure.lateStores }], guard := none }) (v := ?_) rfl (by kernel_rfl) (by kernel_rfl) (by kernel_rfl) (fun _ _ _ h => h) (Or.inl ⟨by rfl, ?_⟩) (by assumption) ?_
            rotate_left
            · (intro w hSw; (try dsimp only at hSw); go_simp; try with_reducible rfl)
            try simp only [Act.put, List.setIfInBounds_toArray, List.set_cons_zero, List.set_cons_succ]
            refine wpAnyH_ready (rs := [16]) (by kernel_rfl) (by simp) ?_
            refine AllReadyH.cons (o := { dst := none, op := Go.Op.store 78 (Go.Operand.tmp 71) (Go.Operand.tmp 69), type := 0, pos := "l17_grow.go:111", after := #[{ on := 15, ground := Go.Ground.data }, { on := 13, ground := Go.Ground.data }, { on := 11, ground := Go.Ground.chain }, { on := 0, ground := Go.Ground.phase }, { on := 1, ground := Go.Ground.phase }, { on := 2, ground := Go.Ground.phase }, { on := 3, ground := Go.Ground.phase }, { on := 4, ground := Go.Ground.phase }, { on := 5, ground := Go.Ground.phase }, { on := 6, ground := Go.Ground.phase }, { on := 7, ground := Go.Ground.phase }, { on := 8, ground := Go.Ground.phase }, { on := 9, ground := Go.Ground.phase }, { on := 10, ground := Go.Ground.phase }, { on := 11, ground := Go.Ground.phase }, { on := 12, ground := Go.Ground.phase }, { on := 13, ground := Go.Ground.phase }, { on := 14, ground := Go.Ground.textOnly Go.Departure.lateStores }], guard := none }) rfl (fun K16 hK16 => ?_) AllReadyH.nil
            go_simp
            refine hK16.out _ _ ?_ (fun hHeld3 => ?_)
            · (try dsimp only); (first | exact (blk4_cells ((hq2.out.c1 x0 n1).c2 a2 b2).2.1).1 | exact (blk4_cells ((hq2.out.c2 a2 b2).c1 x0 n1).2.1).1 | exact (blk4_cells (hq2.out.c1 x0 n1).2.1).1 | exact (blk4_cells (hq2.out.c2 a2 b2).2.1).1 | exact (blk4_cells hq2.out.2.1).1 | exact (blk4_cells hq1.out.2.1).1 | go_keep)
            clear hK16 K16 hHeld2
            try simp only [Act.put, List.setIfInBounds_toArray, List.set_cons_zero, List.set_cons_succ]
            refine wpAnyH_take (i := 17) (oi := { dst := some 72, op := Go.Op.fieldAddr 80 (Go.Operand.tmp 5) 0, type := 0, pos := "l17_grow.go:111", after := #[{ on := 0, ground := Go.Ground.phase }, { on := 1, ground := Go.Ground.phase }, { on := 2, ground := Go.Ground.phase }, { on := 3, ground := Go.Ground.phase }, { on := 4, ground := Go.Ground.phase }, { on := 5, ground := Go.Ground.phase }, { on := 6, ground := Go.Ground.phase }, { on := 7, ground := Go.Ground.phase }, { on := 8, ground := Go.Ground.phase }, { on := 9, ground := Go.Ground.phase }, { on := 10, ground := Go.Ground.phase }, { on := 11, ground := Go.Ground.phase }, { on := 12, ground := Go.Ground.phase }, { on := 13, ground := Go.Ground.phase }, { on := 14, ground := Go.Ground.phase }, { on := 15, ground := Go.Ground.phase }, { on := 16, ground := Go.Ground.phase }], guard := none }) (v := ?_) rfl (by kernel_rfl) (by kernel_rfl) (by kernel_rfl) (fun _ _ _ h => h) (Or.inl ⟨by rfl, ?_⟩) (by assumption) ?_
            rotate_left
            · (intro w hSw; (try dsimp only at hSw); go_simp; try with_reducible rfl)
            try simp only [Act.put, List.setIfInBounds_toArray, List.set_cons_zero, List.set_cons_succ]
            refine wpAnyH_ready (rs := [18]) (by kernel_rfl) (by simp) ?_
            refine AllReadyH.cons (o := { dst := none, op := Go.Op.store 78 (Go.Operand.tmp 72) (Go.Operand.tmp 70), type := 0, pos := "l17_grow.go:111", after := #[{ on := 17, ground := Go.Ground.data }, { on := 14, ground := Go.Ground.data }, { on := 16, ground := Go.Ground.chain }, { on := 0, ground := Go.Ground.phase }, { on := 1, ground := Go.Ground.phase }, { on := 2, ground := Go.Ground.phase }, { on := 3, ground := Go.Ground.phase }, { on := 4, ground := Go.Ground.phase }, { on := 5, ground := Go.Ground.phase }, { on := 6, ground := Go.Ground.phase }, { on := 7, ground := Go.Ground.phase }, { on := 8, ground := Go.Ground.phase }, { on := 9, ground := Go.Ground.phase }, { on := 10, ground := Go.Ground.phase }, { on := 11, ground := Go.Ground.phase }, { on := 12, ground := Go.Ground.phase }, { on := 13, ground := Go.Ground.phase }, { on := 14, ground := Go.Ground.phase }, { on := 15, ground := Go.Ground.phase }, { on := 16, ground := Go.Ground.phase }], guard := none }) rfl (fun K18 hK18 => ?_) AllReadyH.nil
            go_simp
            refine hK18.out _ _ ?_ (fun hHeld4 => ?_)
            · (try dsimp only); (first | exact (blk4_cells ((hq2.out.c1 x0 n1).c2 a2 b2).2.1).1 | exact (blk4_cells ((hq2.out.c2 a2 b2).c1 x0 n1).2.1).1 | exact (blk4_cells (hq2.out.c1 x0 n1).2.1).1 | exact (blk4_cells (hq2.out.c2 a2 b2).2.1).1 | exact (blk4_cells hq2.out.2.1).1 | exact (blk4_cells hq1.out.2.1).1 | go_keep)
            clear hK18 K18 hHeld3
            try simp only [Act.put, List.setIfInBounds_toArray, List.set_cons_zero, List.set_cons_succ]
            refine wpAnyH_done (by kernel_rfl) ?_ _
            (go_wp2_with fail; go_meet; first | exact ⟨_, (hq2.out.c1 x0 n1).c2 a2 b2⟩ | exact ⟨_, (hq2.out.c2 a2 b2).c1 x0 n1⟩)
          case rest =>
            clear c0 c1 c2 c3 hdq HNe HCut hw0 hw1
            obtain ⟨v1, hdq0⟩ := hcut
            have hdq := Lib.hid hdq0
            obtain ⟨⟨c0, c1, c2, c3⟩, -⟩ := blk4_cells hdq0.2.1
            obtain ⟨⟨p0, p1, p2, p3⟩, -⟩ := blk4_cells hdq0.2.2.1
            obtain ⟨⟨m0, m1, m2, m3, m4⟩, -⟩ := blk5_cells hdq0.1.2.1
            clear hdq0
            go_wp2_with fail
            go_cut [] from 73 to 86 (fun wx => ∃ v1, DQ W D B cs x y o1 (q + 2) v1 (k + 1) x0 wd y0 ht P x0 n1 y0 ht R a2 b2 y0 ht wx)
            case first =>
              try simp only [List.cons_append, List.nil_append, List.append_eq]
              refine wp_region_held_drew (S := (fun w' => w'.cell? ⟨D, 0, none⟩ = some (.int .i64 x) ∧ w'.cell? ⟨D, 1, none⟩ = some (.int .i64 y) ∧ w'.cell? ⟨W.heap.size, 2, none⟩ = some (.int .i64 (y0 : Int)) ∧ w'.cell? ⟨W.heap.size, 3, none⟩ = some (.int .i64 (ht : Int)) ∧ w'.cell? ⟨P, 0, none⟩ = some (.int .i64 (x0 : Int)) ∧ w'.cell? ⟨P, 1, none⟩ = some (.int .i64 n1))) (by kernel_rfl) ?_ (fun hHeld0 => ?_)
              · (try dsimp only); (first | exact ⟨(blk5_cells hq3.out.1.2.1).1.1, (blk5_cells hq3.out.1.2.1).1.2.1, (blk4_cells hq3.out.2.1).1.2.2.1, (blk4_cells hq3.out.2.1).1.2.2.2, (blk4_cells hq3.out.2.2.1).1.1, (blk4_cells hq3.out.2.2.1).1.2.1⟩ | exact ⟨(blk5_cells hq2.out.1.2.1).1.1, (blk5_cells hq2.out.1.2.1).1.2.1, (blk4_cells hq2.out.2.1).1.2.2.1, (blk4_cells hq2.out.2.1).1.2.2.2, (blk4_cells hq2.out.2.2.1).1.1, (blk4_cells hq2.out.2.2.1).1.2.1⟩ | exact ⟨(blk5_cells hq1.out.1.2.1).1.1, (blk5_cells hq1.out.1.2.1).1.2.1, (blk4_cells hq1.out.2.1).1.2.2.1, (blk4_cells hq1.out.2.1).1.2.2.2, (blk4_cells hq1.out.2.2.1).1.1, (blk4_cells hq1.out.2.2.1).1.2.1⟩ | exact ⟨(blk5_cells hdq.out.1.2.1).1.1, (blk5_cells hdq.out.1.2.1).1.2.1, (blk4_cells hdq.out.2.1).1.2.2.1, (blk4_cells hdq.out.2.1).1.2.2.2, (blk4_cells hdq.out.2.2.1).1.1, (blk4_cells hdq.out.2.2.1).1.2.1⟩)
              refine wpAnyH_take (i := 0) (oi := { dst := some 73, op := Go.Op.move (Go.Operand.tmp 0), type := 87, pos := "l17_grow.go:112", after := #[], guard := none }) (v := ?_) rfl (by kernel_rfl) (by kernel_rfl) (by kernel_rfl) (fun _ _ _ h => h) (Or.inl ⟨by rfl, ?_⟩) (by assumption) ?_
              rotate_left
              · (intro w hSw; (try dsimp only at hSw); go_simp; try with_reducible rfl)
              try simp only [Act.put, List.setIfInBounds_toArray, List.set_cons_zero, List.set_cons_succ]
              refine wpAnyH_take (i := 1) (oi := { dst := some 74, op := Go.Op.move (Go.Operand.tmp 0), type := 87, pos := "l17_grow.go:112", after := #[], guard := none }) (v := ?_) rfl (by kernel_rfl) (by kernel_rfl) (by kernel_rfl) (fun _ _ _ h => h) (Or.inl ⟨by rfl, ?_⟩) (by assumption) ?_
              rotate_left
              · (intro w hSw; (try dsimp only at hSw); go_simp; try with_reducible rfl)
              try simp only [Act.put, List.setIfInBounds_toArray, List.set_cons_zero, List.set_cons_succ]
              refine wpAnyH_take (i := 2) (oi := { dst := some 75, op := Go.Op.nilCheck (Go.Operand.tmp 74), type := 0, pos := "l17_grow.go:112", after := #[{ on := 1, ground := Go.Ground.data }], guard := none }) (v := ?_) rfl (by kernel_rfl) (by kernel_rfl) (by kernel_rfl) (fun _ _ _ h => h) (Or.inl ⟨by rfl, ?_⟩) (by assumption) ?_
              rotate_left
              · (intro w hSw; (try dsimp only at hSw); go_simp; try with_reducible rfl)
              try simp only [Act.put, List.setIfInBounds_toArray, List.set_cons_zero, List.set_cons_succ]
              refine wpAnyH_take (i := 3) (oi := { dst := some 76, op := Go.Op.fieldAddr 59 (Go.Operand.tmp 75) 0, type := 0, pos := "l17_grow.go:112", after := #[{ on := 2, ground := Go.Ground.data }], guard := none }) (v := ?_) rfl (by kernel_rfl) (by kernel_rfl) (by kernel_rfl) (fun _ _ _ h => h) (Or.inl ⟨by rfl, ?_⟩) (by assumption) ?_
              rotate_left
              · (intro w hSw; (try dsimp only at hSw); go_simp; try with_reducible rfl)
              try simp only [Act.put, List.setIfInBounds_toArray, List.set_cons_zero, List.set_cons_succ]
              refine wpAnyH_take (i := 4) (oi := { dst := some 77, op := Go.Op.fieldAddr 30 (Go.Operand.tmp 76) 0, type := 0, pos := "l17_grow.go:112", after := #[{ on := 3, ground := Go.Ground.data }], guard := none }) (v := ?_) rfl (by kernel_rfl) (by kernel_rfl) (by kernel_rfl) (fun _ _ _ h => h) (Or.inl ⟨by rfl, ?_⟩) (by assumption) ?_
              rotate_left
              · (intro w hSw; (try dsimp only at hSw); go_simp; try with_reducible rfl)
              try simp only [Act.put, List.setIfInBounds_toArray, List.set_cons_zero, List.set_cons_succ]
              refine wpAnyH_take (i := 5) (oi := { dst := some 78, op := Go.Op.load 25 (Go.Operand.tmp 77), type := 25, pos := "l17_grow.go:112", after := #[{ on := 4, ground := Go.Ground.data }], guard := none }) (v := ?_) rfl (by kernel_rfl) (by kernel_rfl) (by kernel_rfl) (fun _ _ _ h => h) (Or.inl ⟨by rfl, ?_⟩) (by assumption) ?_
              rotate_left
              · (intro w hSw; (try dsimp only at hSw); go_simp; try with_reducible rfl)
              try simp only [Act.put, List.setIfInBounds_toArray, List.set_cons_zero, List.set_cons_succ]
              refine wpAnyH_take (i := 6) (oi := { dst := some 79, op := Go.Op.fieldAddr 80 (Go.Operand.tmp 4) 0, type := 0, pos := "l17_grow.go:112", after := #[], guard := none }) (v := ?_) rfl (by kernel_rfl) (by kernel_rfl) (by kernel_rfl) (fun _ _ _ h => h) (Or.inl ⟨by rfl, ?_⟩) (by assumption) ?_
              rotate_left
              · (intro w hSw; (try dsimp only at hSw); go_simp; try with_reducible rfl)
              try simp only [Act.put, List.setIfInBounds_toArray, List.set_cons_zero, List.set_cons_succ]
              refine wpAnyH_take (i := 7) (oi := { dst := some 80, op := Go.Op.load 78 (Go.Operand.tmp 79), type := 78, pos := "l17_grow.go:112", after := #[{ on := 6, ground := Go.Ground.data }], guard := none }) (v := ?_) rfl (by kernel_rfl) (by kernel_rfl) (by kernel_rfl) (fun _ _ _ h => h) (Or.inl ⟨by rfl, ?_⟩) (by assumption) ?_
              rotate_left
              · (intro w hSw; (try dsimp only at hSw); go_simp; try with_reducible rfl)
              try simp only [Act.put, List.setIfInBounds_toArray, List.set_cons_zero, List.set_cons_succ]
              refine wpAnyH_take (i := 9) (oi := { dst := some 82, op := Go.Op.fieldAddr 80 (Go.Operand.tmp 3) 1, type := 0, pos := "l17_grow.go:112", after := #[], guard := none }) (v := ?_) rfl (by kernel_rfl) (by kernel_rfl) (by kernel_rfl) (fun _ _ _ h => h) (Or.inl ⟨by rfl, ?_⟩) (by assumption) ?_
              rotate_left
              · (intro w hSw; (try dsimp only at hSw); go_simp; try with_reducible rfl)
              try simp only [Act.put, List.setIfInBounds_toArray, List.set_cons_zero, List.set_cons_succ]
              refine wpAnyH_take (i := 10) (oi := { dst := some 83, op := Go.Op.load 78 (Go.Operand.tmp 82), type := 78, pos := "l17_grow.go:112", after := #[{ on := 9, ground := Go.Ground.data }], guard := none }) (v := ?_) rfl (by kernel_rfl) (by kernel_rfl) (by kernel_rfl) (fun _ _ _ h => h) (Or.inl ⟨by rfl, ?_⟩) (by assumption) ?_
              rotate_left
              · (intro w hSw; (try dsimp only at hSw); go_simp; try with_reducible rfl)
              try simp only [Act.put, List.setIfInBounds_toArray, List.set_cons_zero, List.set_cons_succ]
              refine wpAnyH_ready (rs := [8]) (by kernel_rfl) (by simp) ?_
              refine AllReadyH.cons (o := { dst := some 81, op := Go.Op.call { callee := Go.Callee.value (Go.Operand.func 65), args := #[Go.Operand.tmp 80], argTypes := #[78] }, type := 78, pos := "l17_grow.go:112", after := #[{ on := 7, ground := Go.Ground.data }], guard := none }) rfl (fun K8 hK8 => ?_) AllReadyH.nil
              go_simp
              (refine (HLa.out _).mono ?_; rintro e v1 ⟨rfl, hb1⟩; have hq1 := Lib.hid (hdq.out.dr.call hb1))
              go_wp2_with fail
              refine hK8.out _ _ ?_ (fun hHeld1 => ?_)
              · (try dsimp only); (first | exact ⟨(blk5_cells hq3.out.1.2.1).1.1, (blk5_cells hq3.out.1.2.1).1.2.1, (blk4_cells hq3.out.2.1).1.2.2.1, (blk4_cells hq3.out.2.1).1.2.2.2, (blk4_cells hq3.out.2.2.1).1.1, (blk4_cells hq3.out.2.2.1).1.2.1⟩ | exact ⟨(blk5_cells hq2.out.1.2.1).1.1, (blk5_cells hq2.out.1.2.1).1.2.1, (blk4_cells hq2.out.2.1).1.2.2.1, (blk4_cells hq2.out.2.1).1.2.2.2, (blk4_cells hq2.out.2.2.1).1.1, (blk4_cells hq2.out.2.2.1).1.2.1⟩ | exact ⟨(blk5_cells hq1.out.1.2.1).1.1, (blk5_cells hq1.out.1.2.1).1.2.1, (blk4_cells hq1.out.2.1).1.2.2.1, (blk4_cells hq1.out.2.1).1.2.2.2, (blk4_cells hq1.out.2.2.1).1.1, (blk4_cells hq1.out.2.2.1).1.2.1⟩ | exact ⟨(blk5_cells hdq.out.1.2.1).1.1, (blk5_cells hdq.out.1.2.1).1.2.1, (blk4_cells hdq.out.2.1).1.2.2.1, (blk4_cells hdq.out.2.1).1.2.2.2, (blk4_cells hdq.out.2.2.1).1.1, (blk4_cells hdq.out.2.2.1).1.2.1⟩)
              clear hK8 K8 hHeld0
              try simp only [Act.put, List.setIfInBounds_toArray, List.set_cons_zero, List.set_cons_succ]
              refine wpAnyH_take (i := 11) (oi := { dst := some 84, op := Go.Op.build 80 #[(0, Go.Operand.tmp 81), (1, Go.Operand.tmp 83)], type := 80, pos := "l17_grow.go:112", after := #[{ on := 8, ground := Go.Ground.data }, { on := 10, ground := Go.Ground.data }], guard := none }) (v := ?_) rfl (by kernel_rfl) (by kernel_rfl) (by kernel_rfl) (fun _ _ _ h => h) (Or.inl ⟨by rfl, ?_⟩) (by assumption) ?_
              rotate_left
              · (intro w hSw; (try dsimp only at hSw); go_simp; try with_reducible rfl)
              try simp only [Act.put, List.setIfInBounds_toArray, List.set_cons_zero, List.set_cons_succ]
              refine wpAnyH_ready (rs := [12]) (by kernel_rfl) (by simp) ?_
              refine AllReadyH.cons (o := { dst := some 85, op := Go.Op.call { callee := Go.Callee.value (Go.Operand.func 64), args := #[Go.Operand.tmp 78, Go.Operand.tmp 84], argTypes := #[25, 80] }, type := 26, pos := "l17_grow.go:112", after := #[{ on := 5, ground := Go.Ground.data }, { on := 11, ground := Go.Ground.data }, { on := 8, ground := Go.Ground.chain }], guard := none }) rfl (fun K12 hK12 => ?_) AllReadyH.nil
              go_simp
              (refine (HCe.out _).mono ?_; rintro e v2 ⟨vv, rfl, ho, hb2⟩; have ho' := own_base ho (show D + 1 ≤ _ by have := hq1.out.1.size; have := hq1.out.1.2.2.2.2; omega); have hq2 := Lib.hid (hq1.out.call hb2); rw [HLl.out] at ho'; obtain ⟨g, c, rfl, -, -⟩ := own_some ho' (by omega); have HO' := Lib.hid ho'; clear ho ho')
              go_wp2_with fail
              refine hK12.out _ _ ?_ (fun hHeld2 => ?_)
              · (try dsimp only); (first | exact ⟨(blk5_cells hq3.out.1.2.1).1.1, (blk5_cells hq3.out.1.2.1).1.2.1, (blk4_cells hq3.out.2.1).1.2.2.1, (blk4_cells hq3.out.2.1).1.2.2.2, (blk4_cells hq3.out.2.2.1).1.1, (blk4_cells hq3.out.2.2.1).1.2.1⟩ | exact ⟨(blk5_cells hq2.out.1.2.1).1.1, (blk5_cells hq2.out.1.2.1).1.2.1, (blk4_cells hq2.out.2.1).1.2.2.1, (blk4_cells hq2.out.2.1).1.2.2.2, (blk4_cells hq2.out.2.2.1).1.1, (blk4_cells hq2.out.2.2.1).1.2.1⟩ | exact ⟨(blk5_cells hq1.out.1.2.1).1.1, (blk5_cells hq1.out.1.2.1).1.2.1, (blk4_cells hq1.out.2.1).1.2.2.1, (blk4_cells hq1.out.2.1).1.2.2.2, (blk4_cells hq1.out.2.2.1).1.1, (blk4_cells hq1.out.2.2.1).1.2.1⟩ | exact ⟨(blk5_cells hdq.out.1.2.1).1.1, (blk5_cells hdq.out.1.2.1).1.2.1, (blk4_cells hdq.out.2.1).1.2.2.1, (blk4_cells hdq.out.2.1).1.2.2.2, (blk4_cells hdq.out.2.2.1).1.1, (blk4_cells hdq.out.2.2.1).1.2.1⟩)
              clear hK12 K12 hHeld1
              try simp only [Act.put, List.setIfInBounds_toArray, List.set_cons_zero, List.set_cons_succ]
              refine wpAnyH_ready (rs := [13]) (by kernel_rfl) (by simp) ?_
              refine AllReadyH.cons (o := { dst := some 86, op := Go.Op.call { callee := Go.Callee.value (Go.Operand.func 63), args := #[Go.Operand.tmp 73, Go.Operand.tmp 85, Go.Operand.const (Go.Value.int Go.IntKind.i64 1)], argTypes := #[87, 26, 3] }, type := 0, pos := "l17_grow.go:112", after := #[{ on := 0, ground := Go.Ground.data }, { on := 12, ground := Go.Ground.data }, { on := 12, ground := Go.Ground.chain }], guard := none }) rfl (fun K13 hK13 => ?_) AllReadyH.nil
              go_simp
              (refine (HSw1.out _ _ _ _ hq2.out.1.2.1 hq2.out.1.2.2.1 HO'.out).mono ?_; rintro e v3 ⟨rfl, v4, hz⟩; have hq3 := Lib.hid (hq2.out.sub hz))
              go_wp2_with fail
              refine hK13.out _ _ ?_ (fun hHeld3 => ?_)
              · (try dsimp only); (first | exact ⟨(blk5_cells hq3.out.1.2.1).1.1, (blk5_cells hq3.out.1.2.1).1.2.1, (blk4_cells hq3.out.2.1).1.2.2.1, (blk4_cells hq3.out.2.1).1.2.2.2, (blk4_cells hq3.out.2.2.1).1.1, (blk4_cells hq3.out.2.2.1).1.2.1⟩ | exact ⟨(blk5_cells hq2.out.1.2.1).1.1, (blk5_cells hq2.out.1.2.1).1.2.1, (blk4_cells hq2.out.2.1).1.2.2.1, (blk4_cells hq2.out.2.1).1.2.2.2, (blk4_cells hq2.out.2.2.1).1.1, (blk4_cells hq2.out.2.2.1).1.2.1⟩ | exact ⟨(blk5_cells hq1.out.1.2.1).1.1, (blk5_cells hq1.out.1.2.1).1.2.1, (blk4_cells hq1.out.2.1).1.2.2.1, (blk4_cells hq1.out.2.1).1.2.2.2, (blk4_cells hq1.out.2.2.1).1.1, (blk4_cells hq1.out.2.2.1).1.2.1⟩ | exact ⟨(blk5_cells hdq.out.1.2.1).1.1, (blk5_cells hdq.out.1.2.1).1.2.1, (blk4_cells hdq.out.2.1).1.2.2.1, (blk4_cells hdq.out.2.1).1.2.2.2, (blk4_cells hdq.out.2.2.1).1.1, (blk4_cells hdq.out.2.2.1).1.2.1⟩)
              clear hK13 K13 hHeld2
              try simp only [Act.put, List.setIfInBounds_toArray, List.set_cons_zero, List.set_cons_succ]
              refine wpAnyH_done (by kernel_rfl) ?_ _
              (go_wp2_with fail; go_meet; exact ⟨_, hq3.out⟩)
            case rest =>
              clear c0 c1 c2 c3 p0 p1 p2 p3 m0 m1 m2 m3 m4 hdq HLa HCe HSw1 HLl
              obtain ⟨v1', hdq0⟩ := hcut
              have hdq := Lib.hid hdq0
              obtain ⟨⟨p0, p1, p2, p3⟩, -⟩ := blk4_cells hdq0.2.2.1
              clear hdq0
              go_wp2_with fail
              refine (HI1.out _ _ hdq.out.1.2.1 hdq.out.1.2.2.1).mono ?_
              rintro e w3 ⟨rfl, v3, t1, hz, hq2⟩
              have hdq3 := Lib.hid (hdq.out.sub hz)
              have Hq2 := Lib.hid hq2
              clear hz hq2 p0 p1 p2 p3 hdq
              obtain ⟨⟨p0, p1, p2, p3⟩, -⟩ := blk4_cells hdq3.out.2.2.2.1
              go_wp2_with fail
              refine (HI2.out _ t1 _ Hq2.out hdq3.out.1.2.1 hdq3.out.1.2.2.1).mono ?_
              rintro e w4 ⟨rfl, v4, t2, hz, hq3⟩
              have HF : Hid (DvR W D B cs x y q k s2 (.returned (.tuple #[])) w4) := Lib.hid ⟨rfl, v4, 1 + t1 + t2, by
                have e : k + ((1 + t1 + t2 : Nat) : Int) = k + 1 + (t1 : Int) + (t2 : Int) := by omega
                rw [e]; exact hdq3.out.1.sub hz, by rw [hq3]; have := Hq2.out; omega⟩
              clear hz hq3
              go_wp2_with fail
              refine bodyPost_end (results_none rfl _ _ _) rfl ?_
              exact HF.out
end Go.Proofs.Ythakbjdkcdppjaa.grwJ
