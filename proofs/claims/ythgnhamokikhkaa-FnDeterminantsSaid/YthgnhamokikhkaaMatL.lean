/- The law of determinants: its walk, over the contracts of the program's functions. -/
import Derived.Test.YthgnhamokikhkaaMatX
import Derived.Test.YthgnhamokikhkaaMatD
namespace Go.Proofs.Ythgnhamokikhkaa.fnDeterminants
open Go.ChangeShapes Go.WideShapes Go.ChangeAt Go.RowKit
open draw gridP gridC bitP mazeP mazeC mazeM mazeE intsP intA intK bigK reachD listK rowsP matP detP matQ matX matD
set_option linter.unusedVariables false

/-- The law's answer. -/
def Yes (w : World) (e : Ending) (w' : World) : Prop := e = .returned (.bool true) ∧ Below w.heap.size w w'
theorem yes_mk {w w' : World} (h : Below w.heap.size w w') : Yes w (.returned (.bool true)) w' := ⟨rfl, h⟩
theorem de_nil : deZ [] = 1 := by
  unfold deZ
  rw [if_pos (show sqB [] = true from rfl)]
  show wrap64 (dm (mfn []) []) = 1
  rw [dm_nil]
  unfold wrap64; decide
theorem own_empty (X : World) (B : Nat) (hB : X.heap.size = B) : (X.alloc (.cells #[] 34)).ownsRow B 34 1 (.slice (some ⟨B, 0, none⟩) 0 0) 0 [] := by
  subst hB
  have := World.ownsRow_lit (base := X.heap.size) (e := 34) (size := 1) X #[] 0 (Nat.le_refl _) (by decide) rfl
  simpa using this

set_option maxRecDepth 100000 in
set_option maxHeartbeats 4000000 in
theorem walk_at (A : Option Addr) (n c : Nat) (w : World) (hn : n ≤ maxLen) (hb : BytesIn w w.heap.size A n)
    (HSq : Hid (∀ A n c ls X, ls.length = n → n ≤ 1048576 → (∀ l ∈ ls, l.length ≤ 1048576) → MxIn X X.heap.size A ls → Calls Try.prog 35 #[.slice A n c] X (Bl (sqB ls) X)))
    (HDt : Hid (∀ A n c ls X, ls.length = n → n ≤ 1048576 → (∀ l ∈ ls, l.length ≤ 1048576) → MxIn X X.heap.size A ls → Calls Try.prog 34 #[.slice A n c] X (Nm (deZ ls) X)))
    (HWo : Hid (∀ A n c ls k X, ls.length = n → n ≤ 1048576 → (∀ l ∈ ls, l.length ≤ 1048576) → MxIn X X.heap.size A ls → Calls Try.prog 36 #[.slice A n c, .int .i64 k] X (Mtx (woL ls k) X))) :
    Calls Try.prog 6 #[.slice A n c] w (Yes w) := by
  have HK := @Lib.hid _ (fun w' h => @yes_mk w w' h)
  have HR := Lib.hid (Below.refl w.heap.size w)
  have HD := Lib.hid (drawSquare_any A n c w hn hb)
  have HN := Lib.hid hn
  have HY := Lib.hid hb
  obtain ⟨j0, hj0, hy0, hy1, hy2⟩ := info_parts info_row
  unfold maxLen at hn
  clear hb
  by_cases hbig : 1048576 < n
  · clear HSq HDt HWo HD
    go_enter Try.func6, Try.ntmps6
    go_wp2_with fail
    refine (big_yes A n c w HN.out hbig).mono ?_
    rintro e w' ⟨rfl, rfl⟩
    go_wp2_with fail
    go_ret
    exact HK.out _ HR.out
  · go_enter Try.func6, Try.ntmps6
    go_wp2_with fail
    refine (big_no A n c w HN.out (by omega)).mono ?_
    rintro e w' ⟨rfl, rfl⟩
    go_wp2_with fail
    refine HD.out.mono ?_
    rintro e w1 ⟨ls, v, ⟨hq, h5⟩, rfl, ho, hb1⟩
    obtain ⟨q1, q2⟩ := sq_len hq
    obtain ⟨A3, c3, rfl⟩ := ho.form
    obtain ⟨m, hm⟩ : ∃ m, ls.length = m := ⟨_, rfl⟩
    obtain ⟨cs, o1, r1⟩ := rows_own ho
    have HMx := Lib.hid ho.read
    have HRw := Lib.hid r1
    rw [hm] at o1 h5 ⊢
    have HO1 := Lib.hid o1
    have HB1 := Lib.hid hb1
    have Hq := Lib.hid hq
    have Hm := Lib.hid hm
    have HLb : Hid (∀ l ∈ ls, l.length ≤ 1048576) := Lib.hid fun l h => by have := (q2 l h).1; omega
    clear o1 r1 ho hb1 hq hm q1 q2 HD HR
    by_cases hm2 : m < 2
    · have hmI : decide ((m : Int) < 2) = true := decide_eq_true (by omega)
      have A1 : Hid (∀ X c, Calls Try.prog 34 #[.slice (some ⟨w1.heap.size, 0, none⟩) 0 c] X (Nm 1 X)) := Lib.hid fun X c => by
        have := HDt.out (some ⟨w1.heap.size, 0, none⟩) 0 c [] X rfl (by decide) (fun l h => absurd h (by simp)) (fun h => absurd rfl h)
        rwa [de_nil] at this
      have A2 : Hid (∀ X, Below w1.heap.size w1 X → Calls Try.prog 35 #[.slice A3 m c3] X (Bl true X)) := Lib.hid fun X h => by
        have := HSq.out A3 m c3 ls X Hm.out (by omega) HLb.out ((HMx.out.below h).more h.size)
        rwa [Hq.out] at this
      have HB2 := Lib.hid (fun o => below_box w1 o)
      clear HSq HDt HWo
      go_wp2_with fail
      refine (A1.out _ _).mono ?_
      rintro e w2 ⟨rfl, hb⟩
      have hb2 := Lib.hid (below_call (HB2.out _) hb)
      clear hb
      go_wp2_with fail
      refine (A2.out _ hb2.out).mono ?_
      rintro e w3 ⟨rfl, hb⟩
      have hb3 := Lib.hid (below_call hb2.out hb)
      clear hb
      go_wp2_with fail
      go_ret
      exact HK.out _ (below_call HB1.out hb3.out)
    · have hmI : decide ((m : Int) < 2) = false := decide_eq_false (by omega)
      have HY1 : Hid (∀ X, Below w.heap.size w X → BytesIn X w.heap.size A n) := Lib.hid fun X h => HY.out.keep fun p hp => h.cell hp
      go_wp2_with fail
      refine (at_any A n c (0 : Int) w1 w.heap.size HN.out (HY1.out _ HB1.out) (by omega) (by omega)).mono ?_
      rintro e w' ⟨a, ha, rfl, rfl⟩
      obtain ⟨i, hi⟩ : ∃ i, a % m = i := ⟨_, rfl⟩
      have him : i < m := by rw [← hi]; exact Nat.mod_lt _ (by omega)
      have t1 : (a : Int).tmod (m : Int) = (i : Int) := by rw [IntWalk.rem_in _ _ (by omega), ← hi]; rfl
      have hmz : ((m : Int) == 0) = false := by rw [beq_eq_false_iff_ne]; omega
      clear hi
      go_wp2_with fail
      refine (at_any A n c (1 : Int) w1 w.heap.size HN.out (HY1.out _ HB1.out) (by omega) (by omega)).mono ?_
      rintro e w' ⟨a', ha', rfl, rfl⟩
      obtain ⟨d, hd⟩ : ∃ d, a' % (m - 1) = d := ⟨_, rfl⟩
      have hdm : d < m - 1 := by rw [← hd]; exact Nat.mod_lt _ (by omega)
      obtain ⟨k, hk⟩ : ∃ k, (i + 1 + d) % m = k := ⟨_, rfl⟩
      have hkm : k < m := by rw [← hk]; exact Nat.mod_lt _ (by omega)
      have hik : i ≠ k := by
        rw [← hk]
        intro e
        rcases Nat.lt_or_ge (i + 1 + d) m with h | h
        · rw [Nat.mod_eq_of_lt h] at e; omega
        · rw [Nat.mod_eq_sub_mod h, Nat.mod_eq_of_lt (by omega)] at e; omega
      have t2 : (a' : Int).tmod ((m : Int) - 1) = (d : Int) := by rw [IntWalk.rem_in _ _ (by omega), ← hd, show (m : Int) - 1 = ((m - 1 : Nat) : Int) by omega]; rfl
      have t3 : ((i : Int) + 1 + (d : Int)).tmod (m : Int) = (k : Int) := by rw [IntWalk.rem_in _ _ (by omega), ← hk, show (i : Int) + 1 + (d : Int) = ((i + 1 + d : Nat) : Int) by omega]; rfl
      have hmz1 : ((m : Int) - 1 == 0) = false := by rw [beq_eq_false_iff_ne]; omega
      have u1 : IntKind.i64.wrap ((i : Int) + 1) = (i : Int) + 1 := IntWalk.i64_in _ (by omega)
      have u2 : IntKind.i64.wrap ((m : Int) - 1) = (m : Int) - 1 := IntWalk.i64_in _ (by omega)
      have u3 : IntKind.i64.wrap ((i : Int) + 1 + (d : Int)) = (i : Int) + 1 + (d : Int) := IntWalk.i64_in _ (by omega)
      clear hk hd ha ha'
      obtain ⟨ga, ca, e3, hga, hga2⟩ := own_some HO1.out (by omega)
      injection e3 with e3 e4 e5
      subst e3 e5
      obtain ⟨li, hli⟩ : ∃ l, ls[i]? = some l := ⟨ls[i]'(by have := Hm.out; omega), List.getElem?_eq_getElem _⟩
      obtain ⟨lk, hlk⟩ : ∃ l, ls[k]? = some l := ⟨ls[k]'(by have := Hm.out; omega), List.getElem?_eq_getElem _⟩
      obtain ⟨ex1, ex2, ex3, ex4⟩ := exch Hq.out hik hli hlk
      obtain ⟨Ai, ci, hci, rdi, -⟩ := HRw.out i li hli
      obtain ⟨Ak, ck, hck, rdk, -⟩ := HRw.out k lk hlk
      have HRb : Hid (RowsOf w1 w1.heap.size ((cs.set i (.slice Ak lk.length ck)).set k (.slice Ai li.length ci)) ((ls.set i lk).set k li)) := Lib.hid (HRw.out.put hli hci (HRw.out.put hlk hck HRw.out (by have := HO1.out.1; have := Hm.out; omega)) (by have := HO1.out.1; have := Hm.out; simp; omega))
      have HRc : Hid (RowsOf w1 w1.heap.size (cs.set i (.slice Ak lk.length ck)) (ls.set i lk)) := Lib.hid (HRw.out.put hlk hck HRw.out (by have := HO1.out.1; have := Hm.out; omega))
      have HLs : Hid (((ls.set i lk).set k li).length = m ∧ (ls.set i lk).length = m) := Lib.hid (by simp [Hm.out])
      have HLl : Hid ((∀ l ∈ (ls.set i lk).set k li, l.length ≤ 1048576) ∧ ∀ l ∈ ls.set i lk, l.length ≤ 1048576) := Lib.hid (by
        have mi : li ∈ ls := List.mem_of_getElem? hli
        have mk : lk ∈ ls := List.mem_of_getElem? hlk
        refine ⟨fun l hl => ?_, fun l hl => HLb.out l (mem_set2 mk hl)⟩
        rcases List.mem_or_eq_of_mem_set hl with h | h
        · exact HLb.out l (mem_set2 mk h)
        · rw [h]; exact HLb.out _ mi)
      have HWl : Hid (((woL ls i).length : Int) = (m : Int) - 1) := Lib.hid (by
        have hl := Hm.out
        unfold woL
        rw [if_pos ⟨Hq.out, by omega, by omega⟩, List.length_map, List.length_eraseIdx, if_pos (by simp; omega), hl]
        omega)
      have HNeg : Hid (IntKind.i64.wrap (- deZ ls) = deZ ((ls.set i lk).set k li)) := Lib.hid (by rw [ex1, IntKind.wrap_i64]; unfold wrap64; omega)
      have HE2 := Lib.hid ex2
      have HE3 := Lib.hid ex3
      have HCl : Hid (cs.length = m * 1) := Lib.hid HO1.out.1
      have HOne : Hid (∀ u ∈ cs, u.oneCell' = true) := Lib.hid fun u hu => by
        obtain ⟨r, hr, e⟩ := List.mem_iff_getElem.1 hu
        have hr2 : r < ls.length := by have := HCl.out; have := Hm.out; omega
        obtain ⟨Ar, cr, h1, -⟩ := HRw.out r _ (List.getElem?_eq_getElem hr2)
        rw [List.getElem?_eq_getElem hr, e] at h1
        rw [Option.some.inj h1]; rfl
      have HCell : Hid (∀ X, Below w1.heap.size w1 X → ∀ j u, cs[j]? = some u → X.cell? ⟨ga, j, none⟩ = some u) := Lib.hid fun X h j u hu => by
        have hj : j < m := by have := (List.getElem?_eq_some_iff.1 hu).1; have := HCl.out; omega
        exact (h.cell (p := ⟨ga, j, none⟩) hga2).trans (by rw [HO1.out.cellAt j (by omega), hu])
      have HNw : Hid (∀ X, Below w1.heap.size w1 X → ∀ j u, cs[j]? = some u → X.cell? ((⟨ga, 0, none⟩ : Addr).add j) = some u) := Lib.hid fun X h j u hu => by
        have e3 : (⟨ga, 0, none⟩ : Addr).add j = ⟨ga, j, none⟩ := by
          simp [Addr.add]
          try omega
        rw [e3]; exact HCell.out X h j u hu
      have HBx := Lib.hid (fun o => below_box w1 o)
      clear ex1 ex2 ex3 ex4 rdi rdk
      generalize lk.length = Lk at *
      generalize li.length = Li at *
      have hi0 : (0 : Int) ≤ (i : Int) := Int.natCast_nonneg _
      have hi1 : (i : Int) < (m : Int) := by omega
      have hk0 : (0 : Int) ≤ (k : Int) := Int.natCast_nonneg _
      have hk1 : (k : Int) < (m : Int) := by omega
      have hki : k ≠ i := fun e => hik e.symm
      clear hli hlk
      go_wp2_with (at_builtin; first | (refine wpList_append_lies _ rfl (.tmp 38) (.tmp 39) 38 rfl w1.heap.size 34 j0 _ 1 24 Try.underlying38 hj0 hy0 hy1 hy2 rfl (by decide) _ 0 [] rfl (own_empty w1 _ rfl) ⟨ga, 0, none⟩ m c3 cs rfl HCl.out (HNw.out _ (HBx.out _)) HOne.out (by omega) (by unfold maxLen; omega) (by omega) (by simp) _ rfl ?_; intro gb cb w2 o2 g2 hat hlt2; clear hat; have HB2 := Lib.hid (below_step (HBx.out _) (Nat.le_refl _) (Nat.le_refl _) (own_empty w1 _ rfl) g2); rw [Nat.zero_add, List.nil_append] at o2; have hgb := (o2.lt gb rfl).1; have hgab : ga ≠ gb := (by omega); have p1 := HCell.out w2 HB2.out i _ hci; have p2 := HCell.out w2 HB2.out k _ hck; have s1 := (o2.cellAt i (by omega)).trans hci; have s2 := (o2.cellAt k (by omega)).trans hck; have f1 := o2.frozenAt i; have f2 := o2.frozenAt k; have hgb2 := hlt2; have HO4 := Lib.hid ((o2.stored i (.slice Ak Lk ck)).1.stored k (.slice Ai Li ci)).1; have HB4 := Lib.hid ((HB2.out.setCell (p := ⟨gb, i, none⟩) hgb (.slice Ak Lk ck)).setCell (p := ⟨gb, k, none⟩) hgb (.slice Ai Li ci)); clear o2 g2 hlt2) | (refine wpList_append_lies _ rfl (.tmp 55) (.tmp 56) 38 rfl w2.heap.size 34 j0 _ 1 24 Try.underlying38 hj0 hy0 hy1 hy2 rfl (by decide) _ 0 [] rfl (own_empty _ w2.heap.size (by simp)) ⟨ga, 0, none⟩ m c3 cs rfl HCl.out (HNw.out _ (HB4.out.alloc HB4.out.size _)) HOne.out (by omega) (by unfold maxLen; omega) (by omega) (by simp) _ rfl ?_; intro gc cc w5 o5 g5 hat hlt2; clear hat; have HB5 := Lib.hid (below_step (HB4.out.alloc HB4.out.size _) HB2.out.size (Nat.le_refl _) (own_empty _ w2.heap.size (by simp)) g5); rw [Nat.zero_add, List.nil_append] at o5; have hgc := (o5.lt gc rfl).1; have hgbc : gb ≠ gc := (by omega); have hgac : ga ≠ gc := (by omega); have HO5 := Lib.hid ((HO4.out.alloc (.cells #[] 34)).kept g5 (.inr (fun e => by have e' : gb = w2.heap.size := Option.some.inj e; omega))); have p3 := HCell.out w5 HB5.out i _ hci; have p4 := HCell.out w5 HB5.out k _ hck; have s3 := (o5.cellAt i (by omega)).trans hci; have f3 := o5.frozenAt i; have HC6 := Lib.hid (o5.stored i (.slice Ak Lk ck)).1; have HO6 := Lib.hid (HO5.out.kept (o5.stored i (.slice Ak Lk ck)).2 (.inr (fun e => hgbc (Option.some.inj e)))); have HB6 := Lib.hid (HB5.out.setCell (p := ⟨gc, i, none⟩) (Nat.le_trans HB2.out.size hgc) (.slice Ak Lk ck)); clear o5 g5 hlt2))
      generalize w5.setCell ⟨gc, i, none⟩ (.slice Ak Lk ck) = w6 at *
      clear p1 p2 p3 p4 s1 s2 s3 f1 f2 f3
      have A1 : Hid (∀ X, Below w1.heap.size w1 X → X.ownsRow w1.heap.size 34 1 (.slice (some ⟨gb, 0, none⟩) m cb) m ((cs.set i (.slice Ak Lk ck)).set k (.slice Ai Li ci)) → Calls Try.prog 34 #[.slice (some ⟨gb, 0, none⟩) m cb] X (Nm (deZ ((ls.set i lk).set k li)) X)) :=
        Lib.hid fun X h o => HDt.out _ m cb _ X HLs.out.1 (by omega) HLl.out.1 ((HRb.out.below h).mx h.size o HLs.out.1.symm)
      have A2 : Hid (∀ X, Below w1.heap.size w1 X → Calls Try.prog 34 #[.slice (some ⟨ga, 0, none⟩) m c3] X (Nm (deZ ls) X)) :=
        Lib.hid fun X h => HDt.out _ m c3 ls X Hm.out (by omega) HLb.out ((HMx.out.below h).more h.size)
      have A3 : Hid (∀ X, Below w1.heap.size w1 X → X.ownsRow w2.heap.size 34 1 (.slice (some ⟨gc, 0, none⟩) m cc) m (cs.set i (.slice Ak Lk ck)) → Calls Try.prog 34 #[.slice (some ⟨gc, 0, none⟩) m cc] X (Nm 0 X)) :=
        Lib.hid fun X h o => by
          have := HDt.out _ m cc _ X HLs.out.2 (by omega) HLl.out.2 ((HRc.out.below h).mx h.size o HLs.out.2.symm)
          rwa [HE2.out] at this
      have A4 : Hid (∀ X, Below w1.heap.size w1 X → Calls Try.prog 36 #[.slice (some ⟨ga, 0, none⟩) m c3, .int .i64 (i : Int)] X (Mtx (woL ls i) X)) :=
        Lib.hid fun X h => HWo.out _ m c3 ls i X Hm.out (by omega) HLb.out ((HMx.out.below h).more h.size)
      have A5 : Hid (∀ X, Below w1.heap.size w1 X → X.ownsRow w1.heap.size 34 1 (.slice (some ⟨gb, 0, none⟩) m cb) m ((cs.set i (.slice Ak Lk ck)).set k (.slice Ai Li ci)) → Calls Try.prog 35 #[.slice (some ⟨gb, 0, none⟩) m cb] X (Bl true X)) :=
        Lib.hid fun X h o => by
          have := HSq.out _ m cb _ X HLs.out.1 (by omega) HLl.out.1 ((HRb.out.below h).mx h.size o HLs.out.1.symm)
          rwa [HE3.out] at this
      have hneg := HNeg.out
      have hwl := HWl.out
      clear HNeg HWl HDt HSq HWo HO5 HO4 HB5 HB4
      generalize deZ ((ls.set i lk).set k li) = dB at *
      generalize deZ ls = dA at *
      refine (A1.out _ HB6.out HO6.out).mono ?_
      rintro e w7 ⟨rfl, hb⟩
      have HB7 := Lib.hid (below_call HB6.out hb)
      have HC7 := Lib.hid (own_call HC6.out hb)
      have HO7 := Lib.hid (own_call HO6.out hb)
      clear hb HB6 HC6 HO6
      go_wp2_with fail
      refine (A2.out _ HB7.out).mono ?_
      rintro e w8 ⟨rfl, hb⟩
      have HB8 := Lib.hid (below_call HB7.out hb)
      have HC8 := Lib.hid (own_call HC7.out hb)
      have HO8 := Lib.hid (own_call HO7.out hb)
      clear hb HB7 HC7 HO7
      go_wp2_with fail
      refine (A3.out _ HB8.out HC8.out).mono ?_
      rintro e w9 ⟨rfl, hb⟩
      have HB9 := Lib.hid (below_call HB8.out hb)
      have HO9 := Lib.hid (own_call HO8.out hb)
      clear hb HB8 HC8 HO8
      go_wp2_with fail
      refine (A4.out _ HB9.out).mono ?_
      rintro e wa ⟨v, rfl, ho, hb⟩
      obtain ⟨Av, cv, rfl⟩ := ho.form
      have HBa := Lib.hid (below_call HB9.out hb)
      have HOa := Lib.hid (own_call HO9.out hb)
      clear hb ho HB9 HO9
      go_wp2_with fail
      refine (A5.out _ HBa.out HOa.out).mono ?_
      rintro e wb ⟨rfl, hb⟩
      have HBb := Lib.hid (below_call HBa.out hb)
      clear hb HBa HOa
      go_wp2_with fail
      go_ret
      exact HK.out _ (below_call HB1.out HBb.out)
end Go.Proofs.Ythgnhamokikhkaa.fnDeterminants
