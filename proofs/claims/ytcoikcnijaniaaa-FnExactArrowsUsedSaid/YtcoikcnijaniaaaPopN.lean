/- The contract of the model's walks on arrows. -/
import Derived.Test.YtcoikcnijaniaaaPopM
import Derived.Deep.LoopGhost
namespace Go.Proofs.Ytcoikcnijaniaaa.popN
open Go.ChangeShapes Go.WideShapes Go.ChangeAt Go.RowKit
open draw gridP gridC gridE bitP mazeP mazeC mazeM mazeR mazeS intsP boolP reachP reachM reachN reachD intA intK listK rowsP wayP ersP ersO popP popO popM
set_option linter.unusedVariables false

/-- What a run answers. -/
def PopR (x y : Int) (ls : List (List Int)) (l : List Int) (r0 : Option Nat) (b : Nat) (W : World) (e : Ending) (w' : World) : Prop :=
  (Below b W w' ∧ W.grownBy w' r0) ∧ ((∃ t L o, ppR x y ls l = some (t, L, o) ∧ e = .returned (.tuple #[.agg #[.int .i64 x, .int .i64 y, .int .i64 o], .int .i64 ((tot t ls.length : Nat) : Int), .bool true])) ∨
    (ppR x y ls l = none ∧ ∃ z : Int, e = .returned (.tuple #[.agg #[.int .i64 x, .int .i64 y, .int .i64 z], .int .i64 0, .bool false])))
/-- The beginnings, of which k of the cells stand there. -/
def bgK (l : List Int) (k : Nat) : List Int := l ++ (List.range k).map fun (j : Nat) => (j : Int)
theorem bgK_zero (l : List Int) : bgK l 0 = l := by simp [bgK]
theorem bgK_next (l : List Int) (k : Nat) : bgK l (k + 1) = bgK l k ++ [(k : Int)] := by simp [bgK, List.range_succ]
theorem bgK_len (l : List Int) (k : Nat) : (bgK l k).length = l.length + k := by simp [bgK]
theorem bg_rng {N : Int} {l : List Int} {k : Nat} (hl : ∀ u ∈ l, 0 ≤ u ∧ u < N) (hk : (k : Int) ≤ N) : ∀ u ∈ bgK l k, 0 ≤ u ∧ u < N := fun u hu => by
  rcases List.mem_append.1 hu with h | h
  · exact hl u h
  · obtain ⟨j, hj, rfl⟩ := List.mem_map.1 h
    have := List.mem_range.1 hj
    omega
theorem tot_bd {x y : Int} {ls : List (List Int)} (hA : Ao x y ls) {t : Int → Nat} (h : ∀ u, t u ≤ (rwA ls u).length) : tot t ls.length ≤ 960 := by
  have h1 := sm_bd (f := fun k => t k) (B := 60) (n := ls.length) fun k _ => Nat.le_trans (h k) (hA.row k)
  have := hA.n16
  unfold tot; omega
theorem below_set3b {W X Y : World} {b g : Nat} {u v w : Value} (h : Below b W X) (hb : b ≤ g) (hY : Y = ((X.setCell ⟨g, 0, none⟩ u).setCell ⟨g, 1, none⟩ v).setCell ⟨g, 2, none⟩ w) : Below b W Y := by
  subst hY
  exact Below.setCell (Below.setCell (Below.setCell h hb _) hb _) hb _
theorem pw_start {x y : Int} {ls : List (List Int)} {L : List Int} {c : Int} {t : Int → Nat} (hA : Ao x y ls) (h0 : (0 : Int) ∈ L) (ht : ∀ u, t u ≤ (rwA ls u).length) (hc : 0 ≤ c ∧ c < x * y) : Pw x y ls L [] c t :=
  ⟨hA, h0, by simp, by simp, by simp, by simp, ht, hc, fun i a h => by simp at h⟩
theorem tot_bmp {t : Int → Nat} {w : List Int} {p j : Nat} {v : Int} {n : Nat} (hd : w.Nodup) (hv : w[p + j]? = some v) (hr : 0 ≤ v ∧ v < (n : Int)) : bmp t ((w.drop p).take (j + 1)) = upd (bmp t ((w.drop p).take j)) v ∧ tot (bmp t ((w.drop p).take (j + 1))) n = tot (bmp t ((w.drop p).take j)) n + 1 := by
  have h1 := (bmp_next (t := t) (hd.sublist (List.drop_sublist p w)) (show (w.drop p)[j]? = some v by rw [List.getElem?_drop]; exact hv)).1
  exact ⟨h1, by rw [h1]; exact tot_next hr⟩
theorem bmp_take (t : Int → Nat) (X : List Int) (j : Nat) (u : Int) : bmp t (X.take j) u ≤ bmp t X u := by
  unfold bmp
  by_cases h : u ∈ X.take j
  · rw [if_pos h, if_pos (List.mem_of_mem_take h)]; exact Nat.le_refl _
  · rw [if_neg h]; split <;> omega
theorem mz_end {W X Y : World} {r0 : Option Nat} {b N : Nat} {x y o : Int} {A : Option Addr} {ls : List (List Int)} {t : Int → Nat} {L : List Int} {u v w : Value} (h : MZ W r0 b N x y A ls t L o X) (hY : Y = ((X.setCell ⟨W.heap.size + 1, 0, none⟩ u).setCell ⟨W.heap.size + 1, 1, none⟩ v).setCell ⟨W.heap.size + 1, 2, none⟩ w) : Below b W Y ∧ W.grownBy Y r0 := by
  have h2 := h.1.2.1
  refine ⟨below_set3b h.1.1.1 (by omega) hY, ?_⟩
  subst hY
  exact gb_step h.1.1.2.1 (grown_set (grown_set (grown_one X (W.heap.size + 1) 0 u) v) w) fun g e => by cases e; exact .inr (by omega)
theorem set1_keep {X : World} {b k : Nat} {v u : Value} {p : Addr} (h : X.cell? p = some u) (hp : p.block ≠ b) : (X.setCell ⟨b, k, none⟩ v).cell? p = some u := by
  rw [World.cell?_setCell_other _ _ _ _ (fun e => hp (by rw [← e]))]; exact h
theorem set3_keep {X : World} {b : Nat} {v0 v1 v2 u : Value} {p : Addr} (h : X.cell? p = some u) (hp : p.block ≠ b) : (((X.setCell ⟨b, 0, none⟩ v0).setCell ⟨b, 1, none⟩ v1).setCell ⟨b, 2, none⟩ v2).cell? p = some u := set1_keep (set1_keep (set1_keep h hp) hp) hp
theorem mz_start {W : World} {b N : Nat} {x y : Int} {A : Option Addr} {ls : List (List Int)} {v : Value} {l : List Int} (r0 : Option Nat) (hr0 : v.ownBlock = r0) (hb : b ≤ W.heap.size) (hi : MxIn W b A ls) (ho : W.ownsRow b 3 1 v l.length (icells l)) (hN : 1 ≤ N) (hm : N ≤ maxLen) (T T' T'' : TypeId) :
    MZ W r0 b N x y A ls (fun _ => 0) [0] 0 (((((W.alloc (.cells #[.int .i64 x, .int .i64 y] T)).alloc (.cells #[.int .i64 0, .int .i64 0, .int .i64 0] T')).alloc (.cells #[.int .i64 x, .int .i64 y, .int .i64 0] T'')).alloc (.cells (madeCells #[.int .i64 0] N) 3)).alloc (.cells ((madeCells #[.bool false] N).setIfInBounds 0 (.bool true)) 4)) ∧
    OZ W r0 b v l (((((W.alloc (.cells #[.int .i64 x, .int .i64 y] T)).alloc (.cells #[.int .i64 0, .int .i64 0, .int .i64 0] T')).alloc (.cells #[.int .i64 x, .int .i64 y, .int .i64 0] T'')).alloc (.cells (madeCells #[.int .i64 0] N) 3)).alloc (.cells ((madeCells #[.bool false] N).setIfInBounds 0 (.bool true)) 4)) := by
  have q0 := box_new x y W T
  have b1 := below_box W (.cells #[.int .i64 x, .int .i64 y] T)
  have z1 : (W.alloc (.cells #[.int .i64 x, .int .i64 y] T)).heap.size = W.heap.size + 1 := by simp
  generalize W.alloc (.cells #[.int .i64 x, .int .i64 y] T) = W1 at *
  have r1 := row3_new 0 0 0 W1 T'
  have b2 := below_box W1 (.cells #[.int .i64 0, .int .i64 0, .int .i64 0] T')
  have z2 : (W1.alloc (.cells #[.int .i64 0, .int .i64 0, .int .i64 0] T')).heap.size = W1.heap.size + 1 := by simp
  generalize W1.alloc (.cells #[.int .i64 0, .int .i64 0, .int .i64 0] T') = W2 at *
  have r2 := row3_new x y 0 W2 T''
  have b3 := below_box W2 (.cells #[.int .i64 x, .int .i64 y, .int .i64 0] T'')
  have z3 : (W2.alloc (.cells #[.int .i64 x, .int .i64 y, .int .i64 0] T'')).heap.size = W2.heap.size + 1 := by simp
  generalize W2.alloc (.cells #[.int .i64 x, .int .i64 y, .int .i64 0] T'') = W3 at *
  have r3 := World.ownsRow_lit (base := b) (e := 3) (size := 1) W3 (madeCells (Value.int .i64 0).cells N) N (by omega) hm (by rw [size_madeCells]; omega)
  rw [made_zero] at r3
  have b4 := below_box W3 (.cells (madeCells (Value.int .i64 0).cells N) 3)
  have z4 : (W3.alloc (.cells (madeCells (Value.int .i64 0).cells N) 3)).heap.size = W3.heap.size + 1 := by simp
  change MZ W r0 b N x y A ls (fun _ => 0) [0] 0 ((W3.alloc (.cells (madeCells (Value.int .i64 0).cells N) 3)).alloc (.cells ((madeCells #[.bool false] N).setIfInBounds 0 (.bool true)) 4)) ∧ OZ W r0 b v l ((W3.alloc (.cells (madeCells (Value.int .i64 0).cells N) 3)).alloc (.cells ((madeCells #[.bool false] N).setIfInBounds 0 (.bool true)) 4))
  generalize W3.alloc (.cells (madeCells (Value.int .i64 0).cells N) 3) = W4 at *
  have r4 := bools_put (bools_make b N W4 (by omega) hm) 0 true
  have hw : W4.alloc (.cells ((madeCells #[.bool false] N).setIfInBounds 0 (.bool true)) 4) = (W4.alloc (.cells (madeCells (Value.bool false).cells N) 4)).setCell ⟨W4.heap.size, 0, none⟩ (.bool true) := by
    go_simp
  rw [← hw, iL_zero hN] at r4
  have b5 := below_box W4 (.cells ((madeCells #[.bool false] N).setIfInBounds 0 (.bool true)) 4)
  have z5 : (W4.alloc (.cells ((madeCells #[.bool false] N).setIfInBounds 0 (.bool true)) 4)).heap.size = W4.heap.size + 1 := by simp
  generalize W4.alloc (.cells ((madeCells #[.bool false] N).setIfInBounds 0 (.bool true)) 4) = W5 at *
  have hB : Below W.heap.size W W5 := ((((b1.trans (b2.mono (by omega))).trans (b3.mono (by omega))).trans (b4.mono (by omega))).trans (b5.mono (by omega)))
  have hB' : Below b W W5 := hB.mono hb
  have e1 : W1.heap.size = W.heap.size + 1 := z1
  have e2 : W2.heap.size = W.heap.size + 1 + 1 := by omega
  have e3 : W3.heap.size = W.heap.size + 1 + 1 + 1 := by omega
  have e4 : W4.heap.size = W.heap.size + 1 + 1 + 1 + 1 := by omega
  refine ⟨⟨⟨⟨hB', ⟨hB.os, hB.tape, hB.output, hB.size, fun k hk _ => hB.block k hk⟩, fun g e => ho.lt g (hr0.trans e)⟩, hb, by omega⟩, ⟨(((q0.call b2).call b3).call b4).call b5, ?_, ?_⟩, ?_, ?_, hi.below hB'⟩, ⟨own_call ho hB, fun g e => .inl (hr0.symm.trans e)⟩⟩
  · rw [← e1]; exact ((r1.call b3).call b4).call b5
  · rw [← e2]; exact (r2.call b4).call b5
  · rw [← e3, tL_zero]; exact own_call r3 b5
  · rw [← e4]; exact r4

set_option maxRecDepth 100000 in
set_option maxHeartbeats 8000000 in
theorem pop_any (x y : Int) (A : Option Addr) (n c : Nat) (ls : List (List Int)) (v : Value) (l : List Int) (r0 : Option Nat) (b : Nat) (W : World) (hr0 : v.ownBlock = r0) (hA : Ao x y ls) (hn : ls.length = n) (hl : ∀ u ∈ l, 0 ≤ u ∧ u < x * y) (hll : l.length ≤ 100) (hb : b ≤ W.heap.size) (hi : MxIn W b A ls) (ho : W.ownsRow b 3 1 v l.length (icells l)) :
    Calls Try.prog 74 #[.agg #[.int .i64 x, .int .i64 y], .slice A n c, v] W (PopR x y ls l r0 b W) := by
  obtain ⟨i0, hi0, hz0, hz1, hz2⟩ := info_parts info_int
  obtain ⟨i1, hi1, hy0, hy1, hy2⟩ := info_parts info_bool
  obtain ⟨A2, c2, rfl⟩ := own_form ho
  obtain ⟨hN0, hN1, hN2, hN3⟩ := hA.n16
  have hmk := fun X => run_make (P := Try.prog) X 32 3 i0 (.int .i64 0) Try.underlying32 hi0 hz0 .i64 .i64 (n : Int) (n : Int) (by omega) (by omega) (by rw [hz2]; omega) (by omega)
  simp only [hz1, Int.toNat_natCast, Nat.mul_one] at hmk
  have hmb := fun X => run_make (P := Try.prog) X 109 4 i1 (.bool false) Try.underlying109 hi1 hy0 .i64 .i64 (n : Int) (n : Int) (by omega) (by omega) (by rw [hy2]; omega) (by omega)
  simp only [hy1, Int.toNat_natCast, Nat.mul_one] at hmb
  have hn1 : (1 : Int) ≤ (n : Int) := by omega
  have hmc : (madeCells #[Value.bool false] n)[0]? = some (.bool false) := by
    rw [← Array.getElem?_toList]
    show (madeCells (Value.bool false).cells n).toList[0]? = _
    rw [made_false, bcells_at _ 0 (by simp; omega)]; simp
  obtain ⟨ad, rfl, hadb⟩ : ∃ ad, A = some ad ∧ ad.block < b := by
    obtain ⟨ad, e, h, -⟩ := mx_cell hi (ao_rows hA (show 0 < ls.length by omega))
    exact ⟨ad, e, h⟩
  have Hadb := Lib.hid hadb
  clear hadb
  have HStart := Lib.hid (fun T T' T'' => @mz_start W b n x y (some ad) ls _ l r0 hr0 hb hi ho (by omega) (by unfold maxLen; omega) T T' T'')
  have HA := Lib.hid hA
  have HKy : Hid (∀ t L o w', ppR x y ls l = some (t, L, o) → Below b W w' ∧ W.grownBy w' r0 → PopR x y ls l r0 b W (.returned (.tuple #[.agg #[.int .i64 x, .int .i64 y, .int .i64 o], .int .i64 ((tot t n : Nat) : Int), .bool true])) w') := Lib.hid fun t L o w' h hb => ⟨hb, .inl ⟨t, L, o, h, by rw [hn]⟩⟩
  have HKn : Hid (∀ z w', ppR x y ls l = none → Below b W w' ∧ W.grownBy w' r0 → PopR x y ls l r0 b W (.returned (.tuple #[.agg #[.int .i64 x, .int .i64 y, .int .i64 z], .int .i64 0, .bool false])) w') := Lib.hid fun z w' h hb => ⟨hb, .inr ⟨h, z, rfl⟩⟩
  have HOrd : Hid (∀ u ∈ bgK l n, 0 ≤ u ∧ u < x * y) := Lib.hid (bg_rng hl (by omega))
  have HTot := Lib.hid (fun t h => (by have := @tot_bd x y ls hA t h; rwa [hn] at this : tot t n ≤ 960))
  have HPP : Hid (ppA x y ls (bgK l n) (fun _ => 0) [0] 0 = ppR x y ls l) := Lib.hid (by unfold ppR bgL; rw [hn]; rfl)
  have HNbr := Lib.hid (fun k d X => gridS.neighbor_any x y k d X)
  have HGp := Lib.hid (fun k d X => gridS.gapAt_any x y k d X)
  have HSg := Lib.hid (fun z g X => mazeS.setGap_any x y z g true X)
  have HRow := Lib.hid hA.row
  have HNn : Hid (x * y = (n : Int) ∧ ls.length = n) := Lib.hid ⟨by omega, hn⟩
  have ht0 : ((tot (fun _ => 0) n : Nat) : Int) = 0 := by
    have : ∀ m, tot (fun _ => 0) m = 0 := fun m => by
      induction m with
      | zero => rfl
      | succ m ih => unfold tot sm; unfold tot at ih; omega
    rw [this]; rfl
  have Ht0 := Lib.hid ht0
  have hn16 : n ≤ 16 := by omega
  generalize hRR : ppR x y ls l = RR at *
  clear hA hn hl hi ho hr0 hN0 hN1 hN2 hN3 ht0 hRR
  go_enter Try.func74, Try.ntmps74
  go_wp2_with fail
  clear hmk hmb hmc
  obtain ⟨hm0, ho0⟩ := HStart.out 25 27 27
  have Hm0 := Lib.hid hm0
  have Ho0 := Lib.hid ho0
  clear hm0 ho0 HStart
  go_loopw [2, 13] (fun u2 u13 wr => ∃ k : Nat, k ≤ n ∧ u13 = .int .i64 k ∧ MZ W r0 b n x y (some ad) ls (fun _ => 0) [0] 0 wr ∧ OZ W r0 b u2 (bgK l k) wr) (fun _ u13 _ => n - (intOf u13).toNat)
  case atStart => exact ⟨0, Nat.zero_le _, rfl, Hm0.out, by rw [bgK_zero]; exact Ho0.out⟩
  case round =>
    clear Hm0 Ho0
    obtain ⟨k, hk, rfl, hm0, ho0⟩ := hrel
    have Hm := Lib.hid hm0
    have Ho := Lib.hid ho0
    obtain ⟨A3, c3, rfl⟩ := own_form ho0.1
    have hbl := bgK_len l k
    have hbsz : b ≤ wr.heap.size := by have := hm0.1.2; omega
    have hbl' : (bgK l k).length ≤ 116 := by omega
    clear hm0 ho0 hbl
    have hk0 : (0 : Int) ≤ (k : Int) := Int.natCast_nonneg _
    by_cases hkn : k < n
    · have hk1 : (k : Int) < (n : Int) := by omega
      have HBn := Lib.hid (bgK_next l k)
      generalize hB : bgK l k = B at *
      go_wp2_with (at_builtin; refine wpList_append_lies _ rfl (.tmp 37) (.tmp 39) 32 rfl (b) 3 i0 _ 1 8 Try.underlying32 hi0 hz0 hz1 hz2 rfl (by omega) _ (B.length) _ rfl (Ho.out.1.alloc _) ⟨wr.heap.size, 0, none⟩ 1 1 (icells [(k : Int)]) rfl rfl (news_eqI rfl (heap_alloc_new wr _)) (oneCellI _) (by omega) (by unfold maxLen; omega) (by omega) (by simp; omega) (wr.heap.size + 1) (by simp) ?_; intro gg cap w3 hown' hgrow hat hlt2; clear hlt2; have HAt := Lib.hid hat; clear hat)
      obtain ⟨n1, n2⟩ := mz_app Hm.out Ho.out hown' hgrow HAt.out
      have N1 := Lib.hid n1
      have N2 := Lib.hid n2
      clear n1 n2 hown' hgrow HAt Hm Ho
      go_wp2_with fail
      go_roundw
      case rel => exact ⟨k + 1, by omega, by go_num, N1.out, by rw [HBn.out]; exact N2.out⟩
      case measure => simp [intOf]; omega
    · obtain rfl : k = n := by omega
      generalize bgK l k = ord at *
      go_wp2_with fail
      go_loopw [12, 14] (fun u12 u14 wq => ∃ (i : Nat) (t : Int → Nat) (L : List Int) (o : Int), i ≤ ord.length ∧ u14 = .int .i64 i ∧ u12 = .int .i64 ((tot t k : Nat) : Int) ∧ ppA x y ls (ord.drop i) t L o = RR ∧ (0 : Int) ∈ L ∧ (∀ u, t u ≤ (rwA ls u).length) ∧ MZ W r0 b k x y (some ad) ls t L o wq ∧ OZ W r0 b (.slice A3 ord.length c3) ord wq) (fun _ u14 _ => ord.length - (intOf u14).toNat)
      case atStart => exact ⟨0, fun _ => 0, [0], 0, Nat.zero_le _, rfl, by rw [Ht0.out], HPP.out, by simp, fun _ => Nat.zero_le _, Hm.out, Ho.out⟩
      case round =>
        clear Hm Ho HPP Ht0 hbsz
        obtain ⟨i, t, L, o, hio, rfl, rfl, hpp, hz, hall, hm0, ho0⟩ := hrel
        have Hm := Lib.hid hm0
        have Ho := Lib.hid ho0
        have Hpp := Lib.hid hpp
        have Hz := Lib.hid hz
        have Hall := Lib.hid hall
        have htb := HTot.out t hall
        clear hm0 ho0 hpp hz hall
        have hib0 : (0 : Int) ≤ (i : Int) := Int.natCast_nonneg _
        by_cases hio' : i < ord.length
        · have hib1 : (i : Int) < (ord.length : Int) := by omega
          obtain ⟨cc, hcc⟩ : ∃ cc, ord[i]? = some cc := ⟨ord[i], List.getElem?_eq_getElem hio'⟩
          have hcr := HOrd.out cc (List.mem_of_getElem? hcc)
          obtain ⟨go, cgo, hge, hgo1, hgo2⟩ := own_some Ho.out.1 (by omega)
          cases hge
          have hcell := own_cellI Ho.out.1 hcc
          have Hpw := Lib.hid (pw_start HA.out Hz.out Hall.out hcr)
          have HWn := Lib.hid (wz_new Hm.out Ho.out)
          have Hdr : Hid (ord.drop i = cc :: ord.drop (i + 1)) := Lib.hid (by rw [List.drop_eq_getElem_cons hio']; congr 1; rw [List.getElem?_eq_getElem hio'] at hcc; exact Option.some.inj hcc)
          have Hpn : Hid (pwW x y ls L 20000 [] cc t = none → RR = none) := Lib.hid fun h => by rw [← Hpp.out, Hdr.out, pp_none h]
          have Hps : Hid (∀ w t', pwW x y ls L 20000 [] cc t = some (w, t') → ppA x y ls (ord.drop (i + 1)) t' (L ++ w) (jnO x y ls t' w o) = RR) := Lib.hid fun w t' h => by rw [← Hpp.out, Hdr.out, pp_some h]
          have Hms := Lib.hid (ms_bd HA.out [] t)
          generalize hPR : pwW x y ls L 20000 [] cc t = PR at *
          have HPR := Lib.hid hPR
          clear hcc hcr hPR Hdr Hpp Hm Ho
          go_wp2_with fail
          clear hcell
          obtain ⟨bw, hbw⟩ : ∃ bw, bw = wr.heap.size := ⟨_, rfl⟩
          rw [← hbw] at HWn ⊢
          clear hbw
          go_loopg [12, 15, 16] 20000 (fun f u12 u15 u16 wq => ∃ (w : List Int) (c1 : Int) (t1 : Int → Nat), u12 = .int .i64 ((tot t1 k : Nat) : Int) ∧ u16 = .int .i64 c1 ∧ pwW x y ls L f w c1 t1 = PR ∧ msP x y ls w t1 < f ∧ Pw x y ls L w c1 t1 ∧ WZ W r0 b k x y (some ad) ls (.slice (some ⟨go, 0, none⟩) ord.length c3) ord bw t1 L o w u15 wq)
          case atStart => exact ⟨[], cc, t, rfl, rfl, HPR.out, Hms.out, Hpw.out, HWn.out⟩
          case round =>
            clear HPR Hms Hpw HWn
            obtain ⟨w, c1, t1, rfl, rfl, hpr, hms, hpw, hwz⟩ := hrel
            have Hpw := Lib.hid hpw
            have Hwz := Lib.hid hwz
            have hc0 := hpw.here.1
            obtain ⟨kc, rfl⟩ : ∃ kc : Nat, c1 = kc := Int.eq_ofNat_of_zero_le hc0
            have hkn : kc < k := by have h1 := hpw.here.2; have h2 := HNn.out.1; omega
            have hkl : kc < ls.length := by have := HNn.out.2; omega
            have hw16 := hpw.w16
            obtain ⟨Aw, cw, rfl⟩ := hwz.form
            obtain ⟨i1', i2'⟩ := hwz.1.icell hkn
            have htb1 := HTot.out t1 hpw.all
            have hc1 : (kc : Int) < (k : Int) := by omega
            obtain ⟨f, rfl⟩ : ∃ f, gk = f + 1 := ⟨gk - 1, by omega⟩
            have Hms := Lib.hid hms
            by_cases hin : (kc : Int) ∈ L
            · rw [decide_eq_true hin] at i1'
              have HNx := Lib.hid (Hps.out w t1 (by rw [← hpr]; exact pw_in hin))
              clear hpr hms hpw hwz hin Hps Hpn HNbr
              go_wp2_with fail
              clear i1' i2'
              go_loopw [20] (fun u20 wq => ∃ j : Nat, j ≤ w.length ∧ u20 = .int .i64 j ∧ WZ W r0 b k x y (some ad) ls (.slice (some ⟨go, 0, none⟩) ord.length c3) ord bw t1 (L ++ w.take j) (jnO x y ls t1 (w.take j) o) w (.slice Aw w.length cw) wq) (fun u20 _ => w.length - (intOf u20).toNat)
              case atStart => exact ⟨0, Nat.zero_le _, rfl, by rw [List.take_zero, List.append_nil]; exact Hwz.out⟩
              case round =>
                clear Hwz
                obtain ⟨j, hj, rfl, hwz⟩ := hrel
                have Hwz := Lib.hid hwz
                have hj0 : (0 : Int) ≤ (j : Int) := Int.natCast_nonneg _
                by_cases hjw : j < w.length
                · obtain ⟨u, hu⟩ : ∃ u, w[j]? = some u := ⟨w[j], List.getElem?_eq_getElem hjw⟩
                  have hmem := List.mem_of_getElem? hu
                  have hur := Hpw.out.rng u hmem
                  have hul := Hpw.out.left u hmem
                  have g1 := (HA.out.top hur hul).1
                  obtain ⟨ku, rfl⟩ : ∃ ku : Nat, u = ku := Int.eq_ofNat_of_zero_le hur.1
                  have hku : ku < k := by have h1 := hur.2; have h2 := HNn.out.1; omega
                  have hkul : ku < ls.length := by have h2 := HNn.out.2; omega
                  obtain ⟨gw, cgw, hge, -, -⟩ := own_some hwz.2.2.2 (by omega)
                  cases hge
                  have hcd := own_cellI hwz.2.2.2 hu
                  obtain ⟨i1', i2'⟩ := hwz.1.icell hku
                  have hj1 : (j : Int) < (w.length : Int) := by omega
                  have hku0 : (0 : Int) ≤ (ku : Int) := Int.natCast_nonneg _
                  have hku1 : (ku : Int) < (k : Int) := by omega
                  have h60 := HRow.out ku
                  have HL := Lib.hid (show L ++ w.take (j + 1) = L ++ w.take j ++ [(ku : Int)] by rw [take_one hu, List.append_assoc])
                  have HJn := Lib.hid (jn_next (x := x) (y := y) (ls := ls) (t := t1) hu o)
                  have HIn := Lib.hid (hwz.inn hku)
                  have Hu := Lib.hid hu
                  have Hg1 := Lib.hid g1
                  clear hu hmem hur hwz g1 Hwz
                  generalize jnO x y ls t1 (w.take j) o = o1 at *
                  have HGp1 := Lib.hid (fun X => HGp.out ku (awZ ls t1 ku) X)
                  have HSg1 := Lib.hid (fun X => HSg.out o1 (gpZ x y ku (awZ ls t1 ku)) X)
                  generalize hL1 : decide ((ku : Int) ∈ L ++ w.take j) = bi at *
                  generalize L ++ w.take j ++ [(ku : Int)] = L1 at *
                  generalize sgB x y o1 (gpZ x y ku (awZ ls t1 ku)) = sb at *
                  generalize sgZ x y o1 (gpZ x y ku (awZ ls t1 ku)) true = o2 at *
                  generalize gpZ x y ku (awZ ls t1 ku) = gg at *
                  clear hL1
                  go_wp2_with fail
                  generalize wr.setCell ⟨W.heap.size + 1 + 1 + 1 + 1, ku, none⟩ (.bool true) = X2 at *
                  clear hcd i1' i2'
                  have hcd := own_cellI HIn.out.2.2.2 Hu.out
                  obtain ⟨c0, c1'⟩ := HIn.out.1.2.1.1.1
                  obtain ⟨⟨m0, m1, m2⟩, -⟩ := row3_cells HIn.out.1.2.1.2.2
                  obtain ⟨f1, f2⟩ := HIn.out.1.tcell hku
                  obtain ⟨Ai, ci, e2, r2⟩ := HIn.out.1.rcell HA.out hkul
                  obtain ⟨ai, rfl, hai, e3⟩ := ints_cell r2 Hg1.out
                  have hx1 : (0 : Int) ≤ ((t1 ku : Nat) : Int) := Int.natCast_nonneg _
                  have hx2 : ((t1 ku : Nat) : Int) < ((rwA ls ku).length : Int) := by omega
                  have Hne : Hid ((gw ≠ W.heap.size + 1 + 1) ∧ ((ad.add ku).block ≠ W.heap.size + 1 + 1) ∧ ((ai.add (t1 ku)).block ≠ W.heap.size + 1 + 1) ∧ (W.heap.size + 1 + 1 + 1 ≠ W.heap.size + 1 + 1) ∧ W.heap.size ≠ W.heap.size + 1 + 1) := Lib.hid (by
                    have h1 := (HIn.out.2.2.2.lt gw rfl).1
                    have h2 := HIn.out.2.2.1.2.1
                    have h3 := HIn.out.1.1.2.1
                    have h4 := Hadb.out
                    rw [block_of_add, block_of_add]
                    omega)
                  clear r2 hul Hg1
                  generalize awZ ls t1 ku = d at *
                  generalize t1 (ku : Int) = tk at *
                  generalize (rwA ls ku).length = ln at *
                  try simp only [List.cons_append, List.nil_append, List.append_eq]
                  refine wp_region_held_drew (S := (fun w' => w'.cell? ⟨gw, j, none⟩ = some (.int .i64 ku) ∧ w'.cell? (ad.add ku) = some (.slice (some ai) ln ci) ∧ w'.cell? (ai.add tk) = some (.int .i64 d) ∧ w'.cell? ⟨W.heap.size + 1 + 1 + 1, ku, none⟩ = some (.int .i64 tk) ∧ w'.cell? ⟨W.heap.size, 0, none⟩ = some (.int .i64 x) ∧ w'.cell? ⟨W.heap.size, 1, none⟩ = some (.int .i64 y))) (by kernel_rfl) ?_ (fun hHeld0 => ?_)
                  · (try dsimp only); go_keep
                  refine wpAnyH_take (i := 1) (oi := { dst := some 140, op := Go.Op.load 25 (Go.Operand.tmp 3), type := 25, pos := "l15_stack.go:54", after := #[], guard := none }) (v := ?_) rfl (by kernel_rfl) (by kernel_rfl) (by kernel_rfl) (fun _ _ _ h => h) (Or.inl ⟨by rfl, ?_⟩) (by assumption) ?_
                  rotate_left
                  · (intro w hSw; (try dsimp only at hSw); go_simp; try with_reducible rfl)
                  try simp only [Act.put, List.setIfInBounds_toArray, List.set_cons_zero, List.set_cons_succ]
                  refine wpAnyH_take (i := 2) (oi := { dst := some 141, op := Go.Op.move (Go.Operand.tmp 15), type := 32, pos := "l15_stack.go:54", after := #[], guard := none }) (v := ?_) rfl (by kernel_rfl) (by kernel_rfl) (by kernel_rfl) (fun _ _ _ h => h) (Or.inl ⟨by rfl, ?_⟩) (by assumption) ?_
                  rotate_left
                  · (intro w hSw; (try dsimp only at hSw); go_simp; try with_reducible rfl)
                  try simp only [Act.put, List.setIfInBounds_toArray, List.set_cons_zero, List.set_cons_succ]
                  refine wpAnyH_take (i := 3) (oi := { dst := some 142, op := Go.Op.move (Go.Operand.tmp 20), type := 3, pos := "l15_stack.go:54", after := #[], guard := none }) (v := ?_) rfl (by kernel_rfl) (by kernel_rfl) (by kernel_rfl) (fun _ _ _ h => h) (Or.inl ⟨by rfl, ?_⟩) (by assumption) ?_
                  rotate_left
                  · (intro w hSw; (try dsimp only at hSw); go_simp; try with_reducible rfl)
                  try simp only [Act.put, List.setIfInBounds_toArray, List.set_cons_zero, List.set_cons_succ]
                  refine wpAnyH_take (i := 4) (oi := { dst := some 143, op := Go.Op.indexAddr 32 (Go.Operand.tmp 141) (Go.Operand.tmp 142), type := 0, pos := "l15_stack.go:54", after := #[{ on := 2, ground := Go.Ground.data }, { on := 3, ground := Go.Ground.data }], guard := none }) (v := ?_) rfl (by kernel_rfl) (by kernel_rfl) (by kernel_rfl) (fun _ _ _ h => h) (Or.inl ⟨by rfl, ?_⟩) (by assumption) ?_
                  rotate_left
                  · (intro w hSw; (try dsimp only at hSw); go_simp; try with_reducible rfl)
                  try simp only [Act.put, List.setIfInBounds_toArray, List.set_cons_zero, List.set_cons_succ]
                  refine wpAnyH_take (i := 5) (oi := { dst := some 144, op := Go.Op.load 3 (Go.Operand.tmp 143), type := 3, pos := "l15_stack.go:54", after := #[{ on := 4, ground := Go.Ground.data }], guard := none }) (v := ?_) rfl (by kernel_rfl) (by kernel_rfl) (by kernel_rfl) (fun _ _ _ h => h) (Or.inl ⟨by rfl, ?_⟩) (by assumption) ?_
                  rotate_left
                  · (intro w hSw; (try dsimp only at hSw); go_simp; try with_reducible rfl)
                  try simp only [Act.put, List.setIfInBounds_toArray, List.set_cons_zero, List.set_cons_succ]
                  refine wpAnyH_take (i := 6) (oi := { dst := some 145, op := Go.Op.move (Go.Operand.tmp 1), type := 37, pos := "l15_stack.go:54", after := #[], guard := none }) (v := ?_) rfl (by kernel_rfl) (by kernel_rfl) (by kernel_rfl) (fun _ _ _ h => h) (Or.inl ⟨by rfl, ?_⟩) (by assumption) ?_
                  rotate_left
                  · (intro w hSw; (try dsimp only at hSw); go_simp; try with_reducible rfl)
                  try simp only [Act.put, List.setIfInBounds_toArray, List.set_cons_zero, List.set_cons_succ]
                  refine wpAnyH_take (i := 7) (oi := { dst := some 146, op := Go.Op.move (Go.Operand.tmp 15), type := 32, pos := "l15_stack.go:54", after := #[], guard := none }) (v := ?_) rfl (by kernel_rfl) (by kernel_rfl) (by kernel_rfl) (fun _ _ _ h => h) (Or.inl ⟨by rfl, ?_⟩) (by assumption) ?_
                  rotate_left
                  · (intro w hSw; (try dsimp only at hSw); go_simp; try with_reducible rfl)
                  try simp only [Act.put, List.setIfInBounds_toArray, List.set_cons_zero, List.set_cons_succ]
                  refine wpAnyH_take (i := 8) (oi := { dst := some 147, op := Go.Op.move (Go.Operand.tmp 20), type := 3, pos := "l15_stack.go:54", after := #[], guard := none }) (v := ?_) rfl (by kernel_rfl) (by kernel_rfl) (by kernel_rfl) (fun _ _ _ h => h) (Or.inl ⟨by rfl, ?_⟩) (by assumption) ?_
                  rotate_left
                  · (intro w hSw; (try dsimp only at hSw); go_simp; try with_reducible rfl)
                  try simp only [Act.put, List.setIfInBounds_toArray, List.set_cons_zero, List.set_cons_succ]
                  refine wpAnyH_take (i := 9) (oi := { dst := some 148, op := Go.Op.indexAddr 32 (Go.Operand.tmp 146) (Go.Operand.tmp 147), type := 0, pos := "l15_stack.go:54", after := #[{ on := 7, ground := Go.Ground.data }, { on := 8, ground := Go.Ground.data }], guard := none }) (v := ?_) rfl (by kernel_rfl) (by kernel_rfl) (by kernel_rfl) (fun _ _ _ h => h) (Or.inl ⟨by rfl, ?_⟩) (by assumption) ?_
                  rotate_left
                  · (intro w hSw; (try dsimp only at hSw); go_simp; try with_reducible rfl)
                  try simp only [Act.put, List.setIfInBounds_toArray, List.set_cons_zero, List.set_cons_succ]
                  refine wpAnyH_take (i := 10) (oi := { dst := some 149, op := Go.Op.load 3 (Go.Operand.tmp 148), type := 3, pos := "l15_stack.go:54", after := #[{ on := 9, ground := Go.Ground.data }], guard := none }) (v := ?_) rfl (by kernel_rfl) (by kernel_rfl) (by kernel_rfl) (fun _ _ _ h => h) (Or.inl ⟨by rfl, ?_⟩) (by assumption) ?_
                  rotate_left
                  · (intro w hSw; (try dsimp only at hSw); go_simp; try with_reducible rfl)
                  try simp only [Act.put, List.setIfInBounds_toArray, List.set_cons_zero, List.set_cons_succ]
                  refine wpAnyH_take (i := 11) (oi := { dst := some 150, op := Go.Op.indexAddr 37 (Go.Operand.tmp 145) (Go.Operand.tmp 149), type := 0, pos := "l15_stack.go:54", after := #[{ on := 6, ground := Go.Ground.data }, { on := 10, ground := Go.Ground.data }], guard := none }) (v := ?_) rfl (by kernel_rfl) (by kernel_rfl) (by kernel_rfl) (fun _ _ _ h => h) (Or.inl ⟨by rfl, ?_⟩) (by assumption) ?_
                  rotate_left
                  · (intro w hSw; (try dsimp only at hSw); go_simp; try with_reducible rfl)
                  try simp only [Act.put, List.setIfInBounds_toArray, List.set_cons_zero, List.set_cons_succ]
                  refine wpAnyH_take (i := 12) (oi := { dst := some 151, op := Go.Op.load 32 (Go.Operand.tmp 150), type := 32, pos := "l15_stack.go:54", after := #[{ on := 11, ground := Go.Ground.data }], guard := none }) (v := ?_) rfl (by kernel_rfl) (by kernel_rfl) (by kernel_rfl) (fun _ _ _ h => h) (Or.inl ⟨by rfl, ?_⟩) (by assumption) ?_
                  rotate_left
                  · (intro w hSw; (try dsimp only at hSw); go_simp; try with_reducible rfl)
                  try simp only [Act.put, List.setIfInBounds_toArray, List.set_cons_zero, List.set_cons_succ]
                  refine wpAnyH_take (i := 13) (oi := { dst := some 152, op := Go.Op.move (Go.Operand.tmp 10), type := 32, pos := "l15_stack.go:54", after := #[], guard := none }) (v := ?_) rfl (by kernel_rfl) (by kernel_rfl) (by kernel_rfl) (fun _ _ _ h => h) (Or.inl ⟨by rfl, ?_⟩) (by assumption) ?_
                  rotate_left
                  · (intro w hSw; (try dsimp only at hSw); go_simp; try with_reducible rfl)
                  try simp only [Act.put, List.setIfInBounds_toArray, List.set_cons_zero, List.set_cons_succ]
                  refine wpAnyH_take (i := 14) (oi := { dst := some 153, op := Go.Op.move (Go.Operand.tmp 15), type := 32, pos := "l15_stack.go:54", after := #[], guard := none }) (v := ?_) rfl (by kernel_rfl) (by kernel_rfl) (by kernel_rfl) (fun _ _ _ h => h) (Or.inl ⟨by rfl, ?_⟩) (by assumption) ?_
                  rotate_left
                  · (intro w hSw; (try dsimp only at hSw); go_simp; try with_reducible rfl)
                  try simp only [Act.put, List.setIfInBounds_toArray, List.set_cons_zero, List.set_cons_succ]
                  refine wpAnyH_take (i := 15) (oi := { dst := some 154, op := Go.Op.move (Go.Operand.tmp 20), type := 3, pos := "l15_stack.go:54", after := #[], guard := none }) (v := ?_) rfl (by kernel_rfl) (by kernel_rfl) (by kernel_rfl) (fun _ _ _ h => h) (Or.inl ⟨by rfl, ?_⟩) (by assumption) ?_
                  rotate_left
                  · (intro w hSw; (try dsimp only at hSw); go_simp; try with_reducible rfl)
                  try simp only [Act.put, List.setIfInBounds_toArray, List.set_cons_zero, List.set_cons_succ]
                  refine wpAnyH_take (i := 16) (oi := { dst := some 155, op := Go.Op.indexAddr 32 (Go.Operand.tmp 153) (Go.Operand.tmp 154), type := 0, pos := "l15_stack.go:54", after := #[{ on := 14, ground := Go.Ground.data }, { on := 15, ground := Go.Ground.data }], guard := none }) (v := ?_) rfl (by kernel_rfl) (by kernel_rfl) (by kernel_rfl) (fun _ _ _ h => h) (Or.inl ⟨by rfl, ?_⟩) (by assumption) ?_
                  rotate_left
                  · (intro w hSw; (try dsimp only at hSw); go_simp; try with_reducible rfl)
                  try simp only [Act.put, List.setIfInBounds_toArray, List.set_cons_zero, List.set_cons_succ]
                  refine wpAnyH_take (i := 17) (oi := { dst := some 156, op := Go.Op.load 3 (Go.Operand.tmp 155), type := 3, pos := "l15_stack.go:54", after := #[{ on := 16, ground := Go.Ground.data }], guard := none }) (v := ?_) rfl (by kernel_rfl) (by kernel_rfl) (by kernel_rfl) (fun _ _ _ h => h) (Or.inl ⟨by rfl, ?_⟩) (by assumption) ?_
                  rotate_left
                  · (intro w hSw; (try dsimp only at hSw); go_simp; try with_reducible rfl)
                  try simp only [Act.put, List.setIfInBounds_toArray, List.set_cons_zero, List.set_cons_succ]
                  refine wpAnyH_take (i := 18) (oi := { dst := some 157, op := Go.Op.indexAddr 32 (Go.Operand.tmp 152) (Go.Operand.tmp 156), type := 0, pos := "l15_stack.go:54", after := #[{ on := 13, ground := Go.Ground.data }, { on := 17, ground := Go.Ground.data }], guard := none }) (v := ?_) rfl (by kernel_rfl) (by kernel_rfl) (by kernel_rfl) (fun _ _ _ h => h) (Or.inl ⟨by rfl, ?_⟩) (by assumption) ?_
                  rotate_left
                  · (intro w hSw; (try dsimp only at hSw); go_simp; try with_reducible rfl)
                  try simp only [Act.put, List.setIfInBounds_toArray, List.set_cons_zero, List.set_cons_succ]
                  refine wpAnyH_take (i := 19) (oi := { dst := some 158, op := Go.Op.load 3 (Go.Operand.tmp 157), type := 3, pos := "l15_stack.go:54", after := #[{ on := 18, ground := Go.Ground.data }], guard := none }) (v := ?_) rfl (by kernel_rfl) (by kernel_rfl) (by kernel_rfl) (fun _ _ _ h => h) (Or.inl ⟨by rfl, ?_⟩) (by assumption) ?_
                  rotate_left
                  · (intro w hSw; (try dsimp only at hSw); go_simp; try with_reducible rfl)
                  try simp only [Act.put, List.setIfInBounds_toArray, List.set_cons_zero, List.set_cons_succ]
                  refine wpAnyH_take (i := 20) (oi := { dst := some 159, op := Go.Op.indexAddr 32 (Go.Operand.tmp 151) (Go.Operand.tmp 158), type := 0, pos := "l15_stack.go:54", after := #[{ on := 12, ground := Go.Ground.data }, { on := 19, ground := Go.Ground.data }], guard := none }) (v := ?_) rfl (by kernel_rfl) (by kernel_rfl) (by kernel_rfl) (fun _ _ _ h => h) (Or.inl ⟨by rfl, ?_⟩) (by assumption) ?_
                  rotate_left
                  · (intro w hSw; (try dsimp only at hSw); go_simp; try with_reducible rfl)
                  try simp only [Act.put, List.setIfInBounds_toArray, List.set_cons_zero, List.set_cons_succ]
                  refine wpAnyH_take (i := 21) (oi := { dst := some 160, op := Go.Op.load 3 (Go.Operand.tmp 159), type := 3, pos := "l15_stack.go:54", after := #[{ on := 20, ground := Go.Ground.data }], guard := none }) (v := ?_) rfl (by kernel_rfl) (by kernel_rfl) (by kernel_rfl) (fun _ _ _ h => h) (Or.inl ⟨by rfl, ?_⟩) (by assumption) ?_
                  rotate_left
                  · (intro w hSw; (try dsimp only at hSw); go_simp; try with_reducible rfl)
                  try simp only [Act.put, List.setIfInBounds_toArray, List.set_cons_zero, List.set_cons_succ]
                  refine wpAnyH_ready (rs := [0, 22]) (by kernel_rfl) (by simp) ?_
                  refine (AllReadyH.cons (o := { dst := some 139, op := Go.Op.load 27 (Go.Operand.tmp 9), type := 27, pos := "l15_stack.go:54", after := #[], guard := none }) rfl (fun K0 hK0 => ?_) (AllReadyH.cons (o := { dst := some 161, op := Go.Op.call { callee := Go.Callee.value (Go.Operand.func 68), args := #[Go.Operand.tmp 140, Go.Operand.tmp 144, Go.Operand.tmp 160], argTypes := #[25, 3, 3] }, type := 3, pos := "l15_stack.go:54", after := #[{ on := 1, ground := Go.Ground.data }, { on := 5, ground := Go.Ground.data }, { on := 21, ground := Go.Ground.data }], guard := none }) rfl (fun K22 hK22 => ?_) AllReadyH.nil))
                  go_simp
                  refine hK0.out _ _ ?_ (fun hHeld1 => ?_)
                  · (try dsimp only); go_keep
                  clear hK0 K0 hHeld0
                  try simp only [Act.put, List.setIfInBounds_toArray, List.set_cons_zero, List.set_cons_succ]
                  refine wpAnyH_ready (rs := [22]) (by kernel_rfl) (by simp) ?_
                  refine AllReadyH.cons (o := { dst := some 161, op := Go.Op.call { callee := Go.Callee.value (Go.Operand.func 68), args := #[Go.Operand.tmp 140, Go.Operand.tmp 144, Go.Operand.tmp 160], argTypes := #[25, 3, 3] }, type := 3, pos := "l15_stack.go:54", after := #[{ on := 1, ground := Go.Ground.data }, { on := 5, ground := Go.Ground.data }, { on := 21, ground := Go.Ground.data }], guard := none }) rfl (fun K22 hK22 => ?_) AllReadyH.nil
                  go_simp
                  (refine (HGp1.out _).mono ?_; rintro e v1 ⟨rfl, hb1⟩; have Hw3 := Lib.hid (HIn.out.dr.call hb1); have k0 := cell_keep hb1 hcd; have k1 := cell_keep hb1 e2; have k2 := cell_keep hb1 e3; have k3 := cell_keep hb1 f1; have k4 := cell_keep hb1 c0; have k5 := cell_keep hb1 c1'; have k6 := cell_keep hb1 m0; have k7 := cell_keep hb1 m1; have k8 := cell_keep hb1 m2; clear hb1 hcd e2 e3 f1 f2 c0 c1' m0 m1 m2)
                  go_wp2_with fail
                  refine hK22.out _ _ ?_ (fun hHeld2 => ?_)
                  · (try dsimp only); go_keep
                  clear hK22 K22 hHeld1
                  try simp only [Act.put, List.setIfInBounds_toArray, List.set_cons_zero, List.set_cons_succ]
                  refine wpAnyH_ready (rs := [23]) (by kernel_rfl) (by simp) ?_
                  refine AllReadyH.cons (o := { dst := some 162, op := Go.Op.call { callee := Go.Callee.value (Go.Operand.func 67), args := #[Go.Operand.tmp 139, Go.Operand.tmp 161, Go.Operand.const (Go.Value.bool true)], argTypes := #[27, 3, 4] }, type := 40, pos := "l15_stack.go:54", after := #[{ on := 0, ground := Go.Ground.data }, { on := 22, ground := Go.Ground.data }, { on := 22, ground := Go.Ground.chain }], guard := none }) rfl (fun K23 hK23 => ?_) AllReadyH.nil
                  go_simp
                  (refine (HSg1.out _).mono ?_; rintro e v2 ⟨rfl, hb1⟩; have Hw4 := Lib.hid (Hw3.out.call hb1); have l0 := cell_keep hb1 k0; have l1 := cell_keep hb1 k1; have l2 := cell_keep hb1 k2; have l3 := cell_keep hb1 k3; have l4 := cell_keep hb1 k4; have l5 := cell_keep hb1 k5; obtain ⟨⟨l6, l7, l8⟩, n0, n1, n2⟩ := row3_cells Hw4.out.1.2.1.2.2; clear hb1 k0 k1 k2 k3 k4 k5 k6 k7 k8)
                  go_wp2_with fail
                  refine hK23.out _ _ ?_ (fun hHeld3 => ?_)
                  · (try dsimp only); go_keep
                  clear hK23 K23 hHeld2
                  try simp only [Act.put, List.setIfInBounds_toArray, List.set_cons_zero, List.set_cons_succ]
                  refine wpAnyH_take (i := 24) (oi := { dst := some 138, op := Go.Op.move (Go.Operand.tmp 162), type := 40, pos := "l15_stack.go:54", after := #[{ on := 23, ground := Go.Ground.data }], guard := none }) (v := ?_) rfl (by kernel_rfl) (by kernel_rfl) (by kernel_rfl) (fun _ _ _ h => h) (Or.inl ⟨by rfl, ?_⟩) (by assumption) ?_
                  rotate_left
                  · (intro w hSw; (try dsimp only at hSw); go_simp; try with_reducible rfl)
                  try simp only [Act.put, List.setIfInBounds_toArray, List.set_cons_zero, List.set_cons_succ]
                  refine wpAnyH_take (i := 25) (oi := { dst := some 163, op := Go.Op.extract (Go.Operand.tmp 138) 0, type := 27, pos := "l15_stack.go:54", after := #[{ on := 24, ground := Go.Ground.data }], guard := none }) (v := ?_) rfl (by kernel_rfl) (by kernel_rfl) (by kernel_rfl) (fun _ _ _ h => h) (Or.inl ⟨by rfl, ?_⟩) (by assumption) ?_
                  rotate_left
                  · (intro w hSw; (try dsimp only at hSw); go_simp; try with_reducible rfl)
                  try simp only [Act.put, List.setIfInBounds_toArray, List.set_cons_zero, List.set_cons_succ]
                  refine wpAnyH_take (i := 26) (oi := { dst := some 164, op := Go.Op.extract (Go.Operand.tmp 138) 1, type := 4, pos := "l15_stack.go:54", after := #[{ on := 24, ground := Go.Ground.data }, { on := 27, ground := Go.Ground.gcOnly Go.Departure.lateStores }], guard := none }) (v := ?_) rfl (by kernel_rfl) (by kernel_rfl) (by kernel_rfl) (fun _ _ _ h => h) (Or.inl ⟨by rfl, ?_⟩) (by assumption) ?_
                  rotate_left
                  · (intro w hSw; (try dsimp only at hSw); go_simp; try with_reducible rfl)
                  try simp only [Act.put, List.setIfInBounds_toArray, List.set_cons_zero, List.set_cons_succ]
                  refine wpAnyH_ready (rs := [27]) (by kernel_rfl) (by simp) ?_
                  refine AllReadyH.cons (o := { dst := none, op := Go.Op.store 27 (Go.Operand.tmp 9) (Go.Operand.tmp 163), type := 0, pos := "l15_stack.go:54", after := #[{ on := 25, ground := Go.Ground.data }, { on := 23, ground := Go.Ground.chain }, { on := 0, ground := Go.Ground.phase }, { on := 1, ground := Go.Ground.phase }, { on := 2, ground := Go.Ground.phase }, { on := 3, ground := Go.Ground.phase }, { on := 4, ground := Go.Ground.phase }, { on := 5, ground := Go.Ground.phase }, { on := 6, ground := Go.Ground.phase }, { on := 7, ground := Go.Ground.phase }, { on := 8, ground := Go.Ground.phase }, { on := 9, ground := Go.Ground.phase }, { on := 10, ground := Go.Ground.phase }, { on := 11, ground := Go.Ground.phase }, { on := 12, ground := Go.Ground.phase }, { on := 13, ground := Go.Ground.phase }, { on := 14, ground := Go.Ground.phase }, { on := 15, ground := Go.Ground.phase }, { on := 16, ground := Go.Ground.phase }, { on := 17, ground := Go.Ground.phase }, { on := 18, ground := Go.Ground.phase }, { on := 19, ground := Go.Ground.phase }, { on := 20, ground := Go.Ground.phase }, { on := 21, ground := Go.Ground.phase }, { on := 22, ground := Go.Ground.phase }, { on := 23, ground := Go.Ground.phase }, { on := 24, ground := Go.Ground.phase }, { on := 25, ground := Go.Ground.phase }, { on := 26, ground := Go.Ground.textOnly Go.Departure.lateStores }], guard := none }) rfl (fun K27 hK27 => ?_) AllReadyH.nil
                  go_simp
                  refine hK27.out _ _ ?_ (fun hHeld4 => ?_)
                  · (try dsimp only); exact ⟨set3_keep l0 Hne.out.1, set3_keep l1 Hne.out.2.1, set3_keep l2 Hne.out.2.2.1, set3_keep l3 Hne.out.2.2.2.1, set3_keep l4 Hne.out.2.2.2.2, set3_keep l5 Hne.out.2.2.2.2⟩
                  clear hK27 K27 hHeld3
                  try simp only [Act.put, List.setIfInBounds_toArray, List.set_cons_zero, List.set_cons_succ]
                  refine wpAnyH_done (by kernel_rfl) ?_ _
                  rotate_left
                  go_simp
                  (refine (HGp1.out _).mono ?_; rintro e v1 ⟨rfl, hb1⟩; have Hw3 := Lib.hid (HIn.out.dr.call hb1); have k0 := cell_keep hb1 hcd; have k1 := cell_keep hb1 e2; have k2 := cell_keep hb1 e3; have k3 := cell_keep hb1 f1; have k4 := cell_keep hb1 c0; have k5 := cell_keep hb1 c1'; have k6 := cell_keep hb1 m0; have k7 := cell_keep hb1 m1; have k8 := cell_keep hb1 m2; clear hb1 hcd e2 e3 f1 f2 c0 c1' m0 m1 m2)
                  go_wp2_with fail
                  refine hK22.out _ _ ?_ (fun hHeld1 => ?_)
                  · (try dsimp only); go_keep
                  clear hK22 K22 hHeld0
                  try simp only [Act.put, List.setIfInBounds_toArray, List.set_cons_zero, List.set_cons_succ]
                  refine wpAnyH_ready (rs := [0]) (by kernel_rfl) (by simp) ?_
                  refine AllReadyH.cons (o := { dst := some 139, op := Go.Op.load 27 (Go.Operand.tmp 9), type := 27, pos := "l15_stack.go:54", after := #[], guard := none }) rfl (fun K0 hK0 => ?_) AllReadyH.nil
                  go_simp
                  refine hK0.out _ _ ?_ (fun hHeld2 => ?_)
                  · (try dsimp only); go_keep
                  clear hK0 K0 hHeld1
                  try simp only [Act.put, List.setIfInBounds_toArray, List.set_cons_zero, List.set_cons_succ]
                  refine wpAnyH_ready (rs := [23]) (by kernel_rfl) (by simp) ?_
                  refine AllReadyH.cons (o := { dst := some 162, op := Go.Op.call { callee := Go.Callee.value (Go.Operand.func 67), args := #[Go.Operand.tmp 139, Go.Operand.tmp 161, Go.Operand.const (Go.Value.bool true)], argTypes := #[27, 3, 4] }, type := 40, pos := "l15_stack.go:54", after := #[{ on := 0, ground := Go.Ground.data }, { on := 22, ground := Go.Ground.data }, { on := 22, ground := Go.Ground.chain }], guard := none }) rfl (fun K23 hK23 => ?_) AllReadyH.nil
                  go_simp
                  (refine (HSg1.out _).mono ?_; rintro e v2 ⟨rfl, hb1⟩; have Hw4 := Lib.hid (Hw3.out.call hb1); have l0 := cell_keep hb1 k0; have l1 := cell_keep hb1 k1; have l2 := cell_keep hb1 k2; have l3 := cell_keep hb1 k3; have l4 := cell_keep hb1 k4; have l5 := cell_keep hb1 k5; obtain ⟨⟨l6, l7, l8⟩, n0, n1, n2⟩ := row3_cells Hw4.out.1.2.1.2.2; clear hb1 k0 k1 k2 k3 k4 k5 k6 k7 k8)
                  go_wp2_with fail
                  refine hK23.out _ _ ?_ (fun hHeld3 => ?_)
                  · (try dsimp only); go_keep
                  clear hK23 K23 hHeld2
                  try simp only [Act.put, List.setIfInBounds_toArray, List.set_cons_zero, List.set_cons_succ]
                  refine wpAnyH_take (i := 24) (oi := { dst := some 138, op := Go.Op.move (Go.Operand.tmp 162), type := 40, pos := "l15_stack.go:54", after := #[{ on := 23, ground := Go.Ground.data }], guard := none }) (v := ?_) rfl (by kernel_rfl) (by kernel_rfl) (by kernel_rfl) (fun _ _ _ h => h) (Or.inl ⟨by rfl, ?_⟩) (by assumption) ?_
                  rotate_left
                  · (intro w hSw; (try dsimp only at hSw); go_simp; try with_reducible rfl)
                  try simp only [Act.put, List.setIfInBounds_toArray, List.set_cons_zero, List.set_cons_succ]
                  refine wpAnyH_take (i := 25) (oi := { dst := some 163, op := Go.Op.extract (Go.Operand.tmp 138) 0, type := 27, pos := "l15_stack.go:54", after := #[{ on := 24, ground := Go.Ground.data }], guard := none }) (v := ?_) rfl (by kernel_rfl) (by kernel_rfl) (by kernel_rfl) (fun _ _ _ h => h) (Or.inl ⟨by rfl, ?_⟩) (by assumption) ?_
                  rotate_left
                  · (intro w hSw; (try dsimp only at hSw); go_simp; try with_reducible rfl)
                  try simp only [Act.put, List.setIfInBounds_toArray, List.set_cons_zero, List.set_cons_succ]
                  refine wpAnyH_take (i := 26) (oi := { dst := some 164, op := Go.Op.extract (Go.Operand.tmp 138) 1, type := 4, pos := "l15_stack.go:54", after := #[{ on := 24, ground := Go.Ground.data }, { on := 27, ground := Go.Ground.gcOnly Go.Departure.lateStores }], guard := none }) (v := ?_) rfl (by kernel_rfl) (by kernel_rfl) (by kernel_rfl) (fun _ _ _ h => h) (Or.inl ⟨by rfl, ?_⟩) (by assumption) ?_
                  rotate_left
                  · (intro w hSw; (try dsimp only at hSw); go_simp; try with_reducible rfl)
                  try simp only [Act.put, List.setIfInBounds_toArray, List.set_cons_zero, List.set_cons_succ]
                  refine wpAnyH_ready (rs := [27]) (by kernel_rfl) (by simp) ?_
                  refine AllReadyH.cons (o := { dst := none, op := Go.Op.store 27 (Go.Operand.tmp 9) (Go.Operand.tmp 163), type := 0, pos := "l15_stack.go:54", after := #[{ on := 25, ground := Go.Ground.data }, { on := 23, ground := Go.Ground.chain }, { on := 0, ground := Go.Ground.phase }, { on := 1, ground := Go.Ground.phase }, { on := 2, ground := Go.Ground.phase }, { on := 3, ground := Go.Ground.phase }, { on := 4, ground := Go.Ground.phase }, { on := 5, ground := Go.Ground.phase }, { on := 6, ground := Go.Ground.phase }, { on := 7, ground := Go.Ground.phase }, { on := 8, ground := Go.Ground.phase }, { on := 9, ground := Go.Ground.phase }, { on := 10, ground := Go.Ground.phase }, { on := 11, ground := Go.Ground.phase }, { on := 12, ground := Go.Ground.phase }, { on := 13, ground := Go.Ground.phase }, { on := 14, ground := Go.Ground.phase }, { on := 15, ground := Go.Ground.phase }, { on := 16, ground := Go.Ground.phase }, { on := 17, ground := Go.Ground.phase }, { on := 18, ground := Go.Ground.phase }, { on := 19, ground := Go.Ground.phase }, { on := 20, ground := Go.Ground.phase }, { on := 21, ground := Go.Ground.phase }, { on := 22, ground := Go.Ground.phase }, { on := 23, ground := Go.Ground.phase }, { on := 24, ground := Go.Ground.phase }, { on := 25, ground := Go.Ground.phase }, { on := 26, ground := Go.Ground.textOnly Go.Departure.lateStores }], guard := none }) rfl (fun K27 hK27 => ?_) AllReadyH.nil
                  go_simp
                  refine hK27.out _ _ ?_ (fun hHeld4 => ?_)
                  · (try dsimp only); exact ⟨set3_keep l0 Hne.out.1, set3_keep l1 Hne.out.2.1, set3_keep l2 Hne.out.2.2.1, set3_keep l3 Hne.out.2.2.2.1, set3_keep l4 Hne.out.2.2.2.2, set3_keep l5 Hne.out.2.2.2.2⟩
                  clear hK27 K27 hHeld3
                  try simp only [Act.put, List.setIfInBounds_toArray, List.set_cons_zero, List.set_cons_succ]
                  refine wpAnyH_done (by kernel_rfl) ?_ _
                  rotate_left
                  all_goals
                    have Hw5 := Lib.hid (Hw4.out.maz o2)
                    go_wp2_with fail
                    go_roundw
                    case rel => exact ⟨j + 1, by omega, by go_num, by rw [HL.out, HJn.out]; exact Hw5.out⟩
                    case measure => simp [intOf]; omega
                · obtain rfl : j = w.length := by omega
                  rw [List.take_length] at hwz Hwz
                  have Hal := Lib.hid Hpw.out.all
                  clear hwz
                  go_wp2_with fail
                  go_roundw
                  case rel => exact ⟨i + 1, t1, L ++ w, jnO x y ls t1 w o, by omega, by go_num, rfl, HNx.out, List.mem_append_left _ Hz.out, Hal.out, Hwz.out.1, Hwz.out.2.1⟩
                  case measure => simp [intOf]; omega
            · rw [decide_eq_false hin] at i1'
              have HStep := Lib.hid (hpw.step hin)
              have HTop := Lib.hid (fun h => HA.out.top hpw.here (t := bmp t1 (w.drop (ixN w kc))) h)
              have HRnext : Hid (bmp t1 (w.drop (ixN w kc)) kc < (rwA ls kc).length → pwW x y ls L f (w.take (ixN w kc) ++ [(kc : Int)]) (nxZ x y ls (bmp t1 (w.drop (ixN w kc))) kc) (bmp t1 (w.drop (ixN w kc))) = PR) := Lib.hid fun h => by rw [← hpr, pw_next hin h]
              have HRnone : Hid (¬ bmp t1 (w.drop (ixN w kc)) kc < (rwA ls kc).length → RR = none) := Lib.hid fun h => Hpn.out (by rw [← hpr, pw_none hin h])
              have Hnod := Lib.hid hpw.nod
              have Hhalf := Lib.hid hpw.half
              have Hrng := Lib.hid hpw.rng
              have htb2 := HTot.out _ Hhalf.out
              clear hpr hms hpw hwz hin Hps Hpn
              go_wp2_with fail
              clear i1' i2'
              go_loopw [17, 18] (fun u17 u18 wq => ∃ j : Nat, j ≤ w.length ∧ u18 = .int .i64 j ∧ u17 = .int .i64 (eaZ w kc j) ∧ WZ W r0 b k x y (some ad) ls (.slice (some ⟨go, 0, none⟩) ord.length c3) ord bw t1 L o w (.slice Aw w.length cw) wq) (fun _ u18 _ => w.length - (intOf u18).toNat)
              case atStart => exact ⟨0, Nat.zero_le _, rfl, by rw [ea_zero], Hwz.out⟩
              case round =>
                clear Hwz
                obtain ⟨j, hj, rfl, rfl, hwz⟩ := hrel
                have Hwz := Lib.hid hwz
                have hj0 : (0 : Int) ≤ (j : Int) := Int.natCast_nonneg _
                by_cases hjw : j < w.length
                · obtain ⟨d, hd⟩ : ∃ d, w[j]? = some d := ⟨w[j], List.getElem?_eq_getElem hjw⟩
                  obtain ⟨gw, cgw, hge, -, -⟩ := own_some hwz.2.2.2 (by omega)
                  cases hge
                  have hcd := own_cellI hwz.2.2.2 hd
                  have hj1 : (j : Int) < (w.length : Int) := by omega
                  clear hwz
                  by_cases hdk : d = (kc : Int)
                  · have HE := Lib.hid (ea_yes Hnod.out (hdk ▸ hd))
                    have hdk' : (d == (kc : Int)) = true := by simpa using hdk
                    clear hd hdk
                    generalize eaZ w kc j = ev at *
                    go_wp2_with fail
                    go_roundw
                    case rel => exact ⟨j + 1, by omega, by go_num, by rw [HE.out], Hwz.out⟩
                    case measure => simp [intOf]; omega
                  · have HE := Lib.hid (ea_no hd hdk)
                    have hdk' : (d == (kc : Int)) = false := by simpa using hdk
                    clear hd hdk
                    generalize eaZ w kc j = ev at *
                    go_wp2_with fail
                    go_roundw
                    case rel => exact ⟨j + 1, by omega, by go_num, by rw [HE.out], Hwz.out⟩
                    case measure => simp [intOf]; omega
                · obtain rfl : j = w.length := by omega
                  clear hwz
                  by_cases hm : (kc : Int) ∈ w
                  · have hpl := ix_lt hm
                    obtain ⟨gw, cgw, hge, -, -⟩ := own_some Hwz.out.2.2.2 (by omega)
                    cases hge
                    obtain ⟨hcap, hcm⟩ := ersO.own_cap Hwz.out.2.2.2
                    unfold maxLen at hcm
                    rw [ea_in (Nat.le_refl _) hm]
                    clear hm
                    generalize ixN w kc = p at *
                    have hp0 : (0 : Int) ≤ (p : Int) := Int.natCast_nonneg _
                    have hp1 : (p : Int) ≤ (cw : Int) := by omega
                    go_wp2_with fail
                    go_loopw [12, 19] (fun u12 u19 wq => ∃ m : Nat, p ≤ m ∧ m ≤ w.length ∧ u19 = .int .i64 m ∧ u12 = .int .i64 ((tot (bmp t1 ((w.drop p).take (m - p))) k : Nat) : Int) ∧ WZ W r0 b k x y (some ad) ls (.slice (some ⟨go, 0, none⟩) ord.length c3) ord bw (bmp t1 ((w.drop p).take (m - p))) L o w (.slice (some ⟨gw, 0, none⟩) w.length cw) wq) (fun _ u19 _ => w.length - (intOf u19).toNat)
                    case atStart => exact ⟨p, Nat.le_refl _, by omega, rfl, by rw [Nat.sub_self, List.take_zero, bmp_nil], by rw [Nat.sub_self, List.take_zero, bmp_nil]; exact Hwz.out⟩
                    case round =>
                      clear Hwz
                      obtain ⟨m, hpm, hml, rfl, rfl, hwz⟩ := hrel
                      have Hwz := Lib.hid hwz
                      have hm0 : (0 : Int) ≤ (m : Int) := Int.natCast_nonneg _
                      by_cases hmw : m < w.length
                      · obtain ⟨d, hd⟩ : ∃ d, w[m]? = some d := ⟨w[m], List.getElem?_eq_getElem hmw⟩
                        have hdr := Hrng.out d (List.mem_of_getElem? hd)
                        have hdk : d < (k : Int) := by have := HNn.out.1; omega
                        obtain ⟨hb1, hb2⟩ := tot_bmp (t := t1) (p := p) (j := m - p) (n := k) Hnod.out (by rw [show p + (m - p) = m by omega]; exact hd) ⟨hdr.1, hdk⟩
                        rw [show m - p + 1 = m + 1 - p by omega] at hb1 hb2
                        obtain ⟨kd, rfl⟩ : ∃ kd : Nat, d = kd := Int.eq_ofNat_of_zero_le hdr.1
                        have hkd : kd < k := by omega
                        have hcd := own_cellI hwz.2.2.2 hd
                        obtain ⟨f1, f2⟩ := hwz.1.tcell hkd
                        have hm1 : (m : Int) < (w.length : Int) := by omega
                        have hd0 : (0 : Int) ≤ (kd : Int) := Int.natCast_nonneg _
                        have HTk := Lib.hid (hwz.dr.top hkd)
                        have Hb1 := Lib.hid hb1
                        have Hb2 := Lib.hid hb2
                        have htb3 : tot (bmp t1 ((w.drop p).take (m - p))) k ≤ 960 := HTot.out _ fun u => Nat.le_trans (bmp_take _ _ _ _) (Hhalf.out u)
                        have Hne : Hid (gw ≠ W.heap.size + 1 + 1 + 1) := Lib.hid (by have h1 := (hwz.2.2.2.lt gw rfl).1; have h2 := hwz.2.2.1.2.1; omega)
                        have hbk : bmp t1 ((w.drop p).take (m - p)) kd ≤ 60 := Nat.le_trans (Nat.le_trans (bmp_take _ _ _ _) (Hhalf.out kd)) (HRow.out kd)
                        clear hwz hd hb1 hb2 hdr hdk
                        generalize hB1 : bmp t1 ((w.drop p).take (m - p)) = B1 at *
                        generalize hT1 : tot B1 k = T1 at *
                        generalize hV1 : B1 (kd : Int) = V1 at *
                        go_wp2_with fail
                        try simp only [List.cons_append, List.nil_append, List.append_eq]
                        refine wp_region_held_drew (S := (fun w' => w'.cell? ⟨gw, m, none⟩ = some (.int .i64 kd))) (by kernel_rfl) ?_ (fun hHeld0 => ?_)
                        · (try dsimp only); go_keep
                        refine wpAnyH_take (i := 0) (oi := { dst := some 79, op := Go.Op.move (Go.Operand.tmp 10), type := 32, pos := "l15_stack.go:41", after := #[], guard := none }) (v := ?_) rfl (by kernel_rfl) (by kernel_rfl) (by kernel_rfl) (fun _ _ _ h => h) (Or.inl ⟨by rfl, ?_⟩) (by assumption) ?_
                        rotate_left
                        · (intro w hSw; (try dsimp only at hSw); go_simp; try with_reducible rfl)
                        try simp only [Act.put, List.setIfInBounds_toArray, List.set_cons_zero, List.set_cons_succ]
                        refine wpAnyH_take (i := 1) (oi := { dst := some 80, op := Go.Op.move (Go.Operand.tmp 15), type := 32, pos := "l15_stack.go:41", after := #[], guard := none }) (v := ?_) rfl (by kernel_rfl) (by kernel_rfl) (by kernel_rfl) (fun _ _ _ h => h) (Or.inl ⟨by rfl, ?_⟩) (by assumption) ?_
                        rotate_left
                        · (intro w hSw; (try dsimp only at hSw); go_simp; try with_reducible rfl)
                        try simp only [Act.put, List.setIfInBounds_toArray, List.set_cons_zero, List.set_cons_succ]
                        refine wpAnyH_take (i := 2) (oi := { dst := some 81, op := Go.Op.move (Go.Operand.tmp 19), type := 3, pos := "l15_stack.go:41", after := #[], guard := none }) (v := ?_) rfl (by kernel_rfl) (by kernel_rfl) (by kernel_rfl) (fun _ _ _ h => h) (Or.inl ⟨by rfl, ?_⟩) (by assumption) ?_
                        rotate_left
                        · (intro w hSw; (try dsimp only at hSw); go_simp; try with_reducible rfl)
                        try simp only [Act.put, List.setIfInBounds_toArray, List.set_cons_zero, List.set_cons_succ]
                        refine wpAnyH_take (i := 3) (oi := { dst := some 82, op := Go.Op.indexAddr 32 (Go.Operand.tmp 80) (Go.Operand.tmp 81), type := 0, pos := "l15_stack.go:41", after := #[{ on := 1, ground := Go.Ground.data }, { on := 2, ground := Go.Ground.data }], guard := none }) (v := ?_) rfl (by kernel_rfl) (by kernel_rfl) (by kernel_rfl) (fun _ _ _ h => h) (Or.inl ⟨by rfl, ?_⟩) (by assumption) ?_
                        rotate_left
                        · (intro w hSw; (try dsimp only at hSw); go_simp; try with_reducible rfl)
                        try simp only [Act.put, List.setIfInBounds_toArray, List.set_cons_zero, List.set_cons_succ]
                        refine wpAnyH_take (i := 4) (oi := { dst := some 83, op := Go.Op.load 3 (Go.Operand.tmp 82), type := 3, pos := "l15_stack.go:41", after := #[{ on := 3, ground := Go.Ground.data }], guard := none }) (v := ?_) rfl (by kernel_rfl) (by kernel_rfl) (by kernel_rfl) (fun _ _ _ h => h) (Or.inl ⟨by rfl, ?_⟩) (by assumption) ?_
                        rotate_left
                        · (intro w hSw; (try dsimp only at hSw); go_simp; try with_reducible rfl)
                        try simp only [Act.put, List.setIfInBounds_toArray, List.set_cons_zero, List.set_cons_succ]
                        refine wpAnyH_take (i := 5) (oi := { dst := some 84, op := Go.Op.move (Go.Operand.tmp 10), type := 32, pos := "l15_stack.go:41", after := #[], guard := none }) (v := ?_) rfl (by kernel_rfl) (by kernel_rfl) (by kernel_rfl) (fun _ _ _ h => h) (Or.inl ⟨by rfl, ?_⟩) (by assumption) ?_
                        rotate_left
                        · (intro w hSw; (try dsimp only at hSw); go_simp; try with_reducible rfl)
                        try simp only [Act.put, List.setIfInBounds_toArray, List.set_cons_zero, List.set_cons_succ]
                        refine wpAnyH_take (i := 6) (oi := { dst := some 85, op := Go.Op.move (Go.Operand.tmp 15), type := 32, pos := "l15_stack.go:41", after := #[], guard := none }) (v := ?_) rfl (by kernel_rfl) (by kernel_rfl) (by kernel_rfl) (fun _ _ _ h => h) (Or.inl ⟨by rfl, ?_⟩) (by assumption) ?_
                        rotate_left
                        · (intro w hSw; (try dsimp only at hSw); go_simp; try with_reducible rfl)
                        try simp only [Act.put, List.setIfInBounds_toArray, List.set_cons_zero, List.set_cons_succ]
                        refine wpAnyH_take (i := 7) (oi := { dst := some 86, op := Go.Op.move (Go.Operand.tmp 19), type := 3, pos := "l15_stack.go:41", after := #[], guard := none }) (v := ?_) rfl (by kernel_rfl) (by kernel_rfl) (by kernel_rfl) (fun _ _ _ h => h) (Or.inl ⟨by rfl, ?_⟩) (by assumption) ?_
                        rotate_left
                        · (intro w hSw; (try dsimp only at hSw); go_simp; try with_reducible rfl)
                        try simp only [Act.put, List.setIfInBounds_toArray, List.set_cons_zero, List.set_cons_succ]
                        refine wpAnyH_take (i := 8) (oi := { dst := some 87, op := Go.Op.indexAddr 32 (Go.Operand.tmp 85) (Go.Operand.tmp 86), type := 0, pos := "l15_stack.go:41", after := #[{ on := 6, ground := Go.Ground.data }, { on := 7, ground := Go.Ground.data }], guard := none }) (v := ?_) rfl (by kernel_rfl) (by kernel_rfl) (by kernel_rfl) (fun _ _ _ h => h) (Or.inl ⟨by rfl, ?_⟩) (by assumption) ?_
                        rotate_left
                        · (intro w hSw; (try dsimp only at hSw); go_simp; try with_reducible rfl)
                        try simp only [Act.put, List.setIfInBounds_toArray, List.set_cons_zero, List.set_cons_succ]
                        refine wpAnyH_take (i := 9) (oi := { dst := some 88, op := Go.Op.load 3 (Go.Operand.tmp 87), type := 3, pos := "l15_stack.go:41", after := #[{ on := 8, ground := Go.Ground.data }], guard := none }) (v := ?_) rfl (by kernel_rfl) (by kernel_rfl) (by kernel_rfl) (fun _ _ _ h => h) (Or.inl ⟨by rfl, ?_⟩) (by assumption) ?_
                        rotate_left
                        · (intro w hSw; (try dsimp only at hSw); go_simp; try with_reducible rfl)
                        try simp only [Act.put, List.setIfInBounds_toArray, List.set_cons_zero, List.set_cons_succ]
                        refine wpAnyH_take (i := 10) (oi := { dst := some 89, op := Go.Op.indexAddr 32 (Go.Operand.tmp 84) (Go.Operand.tmp 88), type := 0, pos := "l15_stack.go:41", after := #[{ on := 5, ground := Go.Ground.data }, { on := 9, ground := Go.Ground.data }], guard := none }) (v := ?_) rfl (by kernel_rfl) (by kernel_rfl) (by kernel_rfl) (fun _ _ _ h => h) (Or.inl ⟨by rfl, ?_⟩) (by assumption) ?_
                        rotate_left
                        · (intro w hSw; (try dsimp only at hSw); go_simp; try with_reducible rfl)
                        try simp only [Act.put, List.setIfInBounds_toArray, List.set_cons_zero, List.set_cons_succ]
                        refine wpAnyH_ready (rs := [11]) (by kernel_rfl) (by simp) ?_
                        refine AllReadyH.cons (o := { dst := some 90, op := Go.Op.load 3 (Go.Operand.tmp 89), type := 3, pos := "l15_stack.go:41", after := #[{ on := 10, ground := Go.Ground.data }], guard := none }) rfl (fun K11 hK11 => ?_) AllReadyH.nil
                        go_simp
                        refine hK11.out _ _ ?_ (fun hHeld1 => ?_)
                        · (try dsimp only); go_keep
                        clear hK11 K11 hHeld0
                        try simp only [Act.put, List.setIfInBounds_toArray, List.set_cons_zero, List.set_cons_succ]
                        refine wpAnyH_take (i := 12) (oi := { dst := some 91, op := Go.Op.binOp Go.BinOp.add 3 (Go.Operand.tmp 90) (Go.Operand.const (Go.Value.int Go.IntKind.i64 1)) 3, type := 3, pos := "l15_stack.go:41", after := #[{ on := 11, ground := Go.Ground.data }], guard := none }) (v := ?_) rfl (by kernel_rfl) (by kernel_rfl) (by kernel_rfl) (fun _ _ _ h => h) (Or.inl ⟨by rfl, ?_⟩) (by assumption) ?_
                        rotate_left
                        · (intro w hSw; (try dsimp only at hSw); go_simp; try with_reducible rfl)
                        try simp only [Act.put, List.setIfInBounds_toArray, List.set_cons_zero, List.set_cons_succ]
                        refine wpAnyH_take (i := 13) (oi := { dst := some 92, op := Go.Op.indexAddr 32 (Go.Operand.tmp 79) (Go.Operand.tmp 83), type := 0, pos := "l15_stack.go:41", after := #[{ on := 0, ground := Go.Ground.data }, { on := 4, ground := Go.Ground.data }, { on := 0, ground := Go.Ground.phase }, { on := 1, ground := Go.Ground.phase }, { on := 2, ground := Go.Ground.phase }, { on := 3, ground := Go.Ground.phase }, { on := 4, ground := Go.Ground.phase }, { on := 5, ground := Go.Ground.phase }, { on := 6, ground := Go.Ground.phase }, { on := 7, ground := Go.Ground.phase }, { on := 8, ground := Go.Ground.phase }, { on := 9, ground := Go.Ground.phase }, { on := 10, ground := Go.Ground.phase }, { on := 11, ground := Go.Ground.phase }, { on := 12, ground := Go.Ground.phase }], guard := none }) (v := ?_) rfl (by kernel_rfl) (by kernel_rfl) (by kernel_rfl) (fun _ _ _ h => h) (Or.inl ⟨by rfl, ?_⟩) (by assumption) ?_
                        rotate_left
                        · (intro w hSw; (try dsimp only at hSw); go_simp; try with_reducible rfl)
                        try simp only [Act.put, List.setIfInBounds_toArray, List.set_cons_zero, List.set_cons_succ]
                        refine wpAnyH_ready (rs := [14]) (by kernel_rfl) (by simp) ?_
                        refine AllReadyH.cons (o := { dst := none, op := Go.Op.store 3 (Go.Operand.tmp 92) (Go.Operand.tmp 91), type := 0, pos := "l15_stack.go:41", after := #[{ on := 13, ground := Go.Ground.data }, { on := 12, ground := Go.Ground.data }, { on := 0, ground := Go.Ground.phase }, { on := 1, ground := Go.Ground.phase }, { on := 2, ground := Go.Ground.phase }, { on := 3, ground := Go.Ground.phase }, { on := 4, ground := Go.Ground.phase }, { on := 5, ground := Go.Ground.phase }, { on := 6, ground := Go.Ground.phase }, { on := 7, ground := Go.Ground.phase }, { on := 8, ground := Go.Ground.phase }, { on := 9, ground := Go.Ground.phase }, { on := 10, ground := Go.Ground.phase }, { on := 11, ground := Go.Ground.phase }, { on := 12, ground := Go.Ground.phase }], guard := none }) rfl (fun K14 hK14 => ?_) AllReadyH.nil
                        go_simp
                        refine hK14.out _ _ ?_ (fun hHeld2 => ?_)
                        · (try dsimp only); exact set1_keep hcd Hne.out
                        clear hK14 K14 hHeld1
                        try simp only [Act.put, List.setIfInBounds_toArray, List.set_cons_zero, List.set_cons_succ]
                        refine wpAnyH_done (by kernel_rfl) ?_ _
                        go_wp2_with fail
                        go_roundw
                        case rel => exact ⟨m + 1, by omega, by omega, by go_num, by rw [Hb2.out]; go_num, by rw [Hb1.out]; exact HTk.out⟩
                        case measure => simp [intOf]; omega
                      · obtain rfl : m = w.length := by omega
                        have hfull : (w.drop p).take (w.length - p) = w.drop p := List.take_of_length_le (by rw [List.length_drop]; omega)
                        rw [hfull] at Hwz hwz ⊢
                        have hw0 := hwz.cut (show p ≤ w.length by omega)
                        clear hwz Hwz hfull
                        generalize hT2 : bmp t1 (w.drop p) = t2 at *
                        generalize hW2 : w.take p = w2 at *
                        have hpw2 : p = w2.length := by rw [← hW2, List.length_take]; omega
                        clear hT2 hW2
                        go_wp2_with fail
                        subst hpw2
                        have Hw := Lib.hid hw0
                        obtain ⟨c0, c1'⟩ := hw0.1.2.1.1.1
                        obtain ⟨f1, f2⟩ := hw0.1.tcell hkn
                        obtain ⟨Ai, ci, e2, r2⟩ := hw0.1.rcell HA.out hkl
                        have hsz := hw0.2.2.1.2.2
                        have how := hw0.2.2.2
                        have How := Lib.hid how
                        clear hw0 how
                        by_cases hlt : t2 kc < (rwA ls kc).length
                        · obtain ⟨hnx, hmm⟩ := HStep.out hlt
                          have Hnx := Lib.hid hnx
                          have Hmm := Lib.hid hmm
                          obtain ⟨g1, g2, g3, g4, g5⟩ := HTop.out hlt
                          obtain ⟨ai, rfl, hai, e3⟩ := ints_cell r2 g1
                          have HRn := Lib.hid (HRnext.out hlt)
                          have HNb := Lib.hid (fun X => HNbr.out kc (awZ ls t2 kc) X)
                          have h60 := HRow.out kc
                          have hx1 : (0 : Int) ≤ ((t2 kc : Nat) : Int) := Int.natCast_nonneg _
                          have hx2 : ((t2 kc : Nat) : Int) < ((rwA ls kc).length : Int) := by omega
                          have hx3 : ¬ ((rwA ls kc).length : Int) ≤ ((t2 kc : Nat) : Int) := by omega
                          clear hlt hnx hmm g2 g3 g4 g5 r2 HRnext HStep HTop HRnone HNbr HRow
                          generalize hd : awZ ls t2 kc = d at *
                          generalize hnv : nxZ x y ls t2 kc = nv at *
                          have hnb : nbZ x y kc d = nv := by rw [← hd, ← hnv]; rfl
                          rw [hnb] at HNb
                          clear hnb hd hnv
                          have Hg1 := Lib.hid g1
                          clear g1
                          generalize hln : (rwA ls kc).length = ln at *
                          generalize hts : t2 kc = tk at *
                          have Hts := Lib.hid hts
                          have Hln := Lib.hid hln
                          clear hts hln
                          go_wp2_with fail
                          go_quiet (fail)
                          clear c0 c1' f1 f2 e2 e3
                          have Hw3 := Lib.hid (Hw.out.drs nq)
                          generalize wr.drewN nq = X3 at *
                          have hsz3 := Hw3.out.2.2.1.2.2
                          clear hsz How Hw
                          go_wp2_with (at_builtin; refine wpList_append_lies _ rfl (.tmp 109) (.tmp 111) 32 rfl (bw) 3 i0 _ 1 8 Try.underlying32 hi0 hz0 hz1 hz2 rfl (by omega) _ (w2.length) _ rfl (Hw3.out.2.2.2.alloc _) ⟨X3.heap.size, 0, none⟩ 1 1 (icells [(kc : Int)]) rfl rfl (news_eqI rfl (heap_alloc_new X3 _)) (oneCellI _) (by omega) (by unfold maxLen; omega) (by omega) (by simp; omega) (X3.heap.size + 1) (by simp) ?_; intro gg cap w3 hown' hgrow hat hlt2; clear hlt2; have HAt := Lib.hid hat; clear hat)
                          have Hw4 := Lib.hid (Hw3.out.app hown' hgrow)
                          clear hown' hgrow HAt Hw3 hsz3
                          generalize w2.length + 1 = w2l at *
                          obtain ⟨c0, c1'⟩ := Hw4.out.1.2.1.1.1
                          obtain ⟨f1, f2⟩ := Hw4.out.1.tcell hkn
                          obtain ⟨Ai', ci', e2, r2⟩ := Hw4.out.1.rcell HA.out hkl
                          rw [Hts.out] at f1
                          rw [Hln.out] at e2
                          obtain ⟨ai', rfl, hai', e3⟩ := ints_cell r2 Hg1.out
                          try simp only [List.cons_append, List.nil_append, List.append_eq]
                          refine wp_region_held_drew (S := (fun w' => w'.cell? ⟨W.heap.size, 0, none⟩ = some (.int .i64 x) ∧ w'.cell? ⟨W.heap.size, 1, none⟩ = some (.int .i64 y) ∧ w'.cell? (ad.add kc) = some (.slice (some ai') ln ci') ∧ w'.cell? (ai'.add tk) = some (.int .i64 d) ∧ w'.cell? ⟨W.heap.size + 1 + 1 + 1, kc, none⟩ = some (.int .i64 tk))) (by kernel_rfl) ?_ (fun hHeld0 => ?_)
                          · (try dsimp only); go_keep
                          refine wpAnyH_take (i := 0) (oi := { dst := some 113, op := Go.Op.load 25 (Go.Operand.tmp 3), type := 25, pos := "l15_stack.go:50", after := #[], guard := none }) (v := ?_) rfl (by kernel_rfl) (by kernel_rfl) (by kernel_rfl) (fun _ _ _ h => h) (Or.inl ⟨by rfl, ?_⟩) (by assumption) ?_
                          rotate_left
                          · (intro w hSw; (try dsimp only at hSw); go_simp; try with_reducible rfl)
                          try simp only [Act.put, List.setIfInBounds_toArray, List.set_cons_zero, List.set_cons_succ]
                          refine wpAnyH_take (i := 1) (oi := { dst := some 114, op := Go.Op.move (Go.Operand.tmp 16), type := 3, pos := "l15_stack.go:50", after := #[], guard := none }) (v := ?_) rfl (by kernel_rfl) (by kernel_rfl) (by kernel_rfl) (fun _ _ _ h => h) (Or.inl ⟨by rfl, ?_⟩) (by assumption) ?_
                          rotate_left
                          · (intro w hSw; (try dsimp only at hSw); go_simp; try with_reducible rfl)
                          try simp only [Act.put, List.setIfInBounds_toArray, List.set_cons_zero, List.set_cons_succ]
                          refine wpAnyH_take (i := 2) (oi := { dst := some 115, op := Go.Op.move (Go.Operand.tmp 1), type := 37, pos := "l15_stack.go:50", after := #[], guard := none }) (v := ?_) rfl (by kernel_rfl) (by kernel_rfl) (by kernel_rfl) (fun _ _ _ h => h) (Or.inl ⟨by rfl, ?_⟩) (by assumption) ?_
                          rotate_left
                          · (intro w hSw; (try dsimp only at hSw); go_simp; try with_reducible rfl)
                          try simp only [Act.put, List.setIfInBounds_toArray, List.set_cons_zero, List.set_cons_succ]
                          refine wpAnyH_take (i := 3) (oi := { dst := some 116, op := Go.Op.move (Go.Operand.tmp 16), type := 3, pos := "l15_stack.go:50", after := #[], guard := none }) (v := ?_) rfl (by kernel_rfl) (by kernel_rfl) (by kernel_rfl) (fun _ _ _ h => h) (Or.inl ⟨by rfl, ?_⟩) (by assumption) ?_
                          rotate_left
                          · (intro w hSw; (try dsimp only at hSw); go_simp; try with_reducible rfl)
                          try simp only [Act.put, List.setIfInBounds_toArray, List.set_cons_zero, List.set_cons_succ]
                          refine wpAnyH_take (i := 4) (oi := { dst := some 117, op := Go.Op.indexAddr 37 (Go.Operand.tmp 115) (Go.Operand.tmp 116), type := 0, pos := "l15_stack.go:50", after := #[{ on := 2, ground := Go.Ground.data }, { on := 3, ground := Go.Ground.data }], guard := none }) (v := ?_) rfl (by kernel_rfl) (by kernel_rfl) (by kernel_rfl) (fun _ _ _ h => h) (Or.inl ⟨by rfl, ?_⟩) (by assumption) ?_
                          rotate_left
                          · (intro w hSw; (try dsimp only at hSw); go_simp; try with_reducible rfl)
                          try simp only [Act.put, List.setIfInBounds_toArray, List.set_cons_zero, List.set_cons_succ]
                          refine wpAnyH_take (i := 5) (oi := { dst := some 118, op := Go.Op.load 32 (Go.Operand.tmp 117), type := 32, pos := "l15_stack.go:50", after := #[{ on := 4, ground := Go.Ground.data }], guard := none }) (v := ?_) rfl (by kernel_rfl) (by kernel_rfl) (by kernel_rfl) (fun _ _ _ h => h) (Or.inl ⟨by rfl, ?_⟩) (by assumption) ?_
                          rotate_left
                          · (intro w hSw; (try dsimp only at hSw); go_simp; try with_reducible rfl)
                          try simp only [Act.put, List.setIfInBounds_toArray, List.set_cons_zero, List.set_cons_succ]
                          refine wpAnyH_take (i := 6) (oi := { dst := some 119, op := Go.Op.move (Go.Operand.tmp 10), type := 32, pos := "l15_stack.go:50", after := #[], guard := none }) (v := ?_) rfl (by kernel_rfl) (by kernel_rfl) (by kernel_rfl) (fun _ _ _ h => h) (Or.inl ⟨by rfl, ?_⟩) (by assumption) ?_
                          rotate_left
                          · (intro w hSw; (try dsimp only at hSw); go_simp; try with_reducible rfl)
                          try simp only [Act.put, List.setIfInBounds_toArray, List.set_cons_zero, List.set_cons_succ]
                          refine wpAnyH_take (i := 7) (oi := { dst := some 120, op := Go.Op.move (Go.Operand.tmp 16), type := 3, pos := "l15_stack.go:50", after := #[], guard := none }) (v := ?_) rfl (by kernel_rfl) (by kernel_rfl) (by kernel_rfl) (fun _ _ _ h => h) (Or.inl ⟨by rfl, ?_⟩) (by assumption) ?_
                          rotate_left
                          · (intro w hSw; (try dsimp only at hSw); go_simp; try with_reducible rfl)
                          try simp only [Act.put, List.setIfInBounds_toArray, List.set_cons_zero, List.set_cons_succ]
                          refine wpAnyH_take (i := 8) (oi := { dst := some 121, op := Go.Op.indexAddr 32 (Go.Operand.tmp 119) (Go.Operand.tmp 120), type := 0, pos := "l15_stack.go:50", after := #[{ on := 6, ground := Go.Ground.data }, { on := 7, ground := Go.Ground.data }], guard := none }) (v := ?_) rfl (by kernel_rfl) (by kernel_rfl) (by kernel_rfl) (fun _ _ _ h => h) (Or.inl ⟨by rfl, ?_⟩) (by assumption) ?_
                          rotate_left
                          · (intro w hSw; (try dsimp only at hSw); go_simp; try with_reducible rfl)
                          try simp only [Act.put, List.setIfInBounds_toArray, List.set_cons_zero, List.set_cons_succ]
                          refine wpAnyH_take (i := 9) (oi := { dst := some 122, op := Go.Op.load 3 (Go.Operand.tmp 121), type := 3, pos := "l15_stack.go:50", after := #[{ on := 8, ground := Go.Ground.data }], guard := none }) (v := ?_) rfl (by kernel_rfl) (by kernel_rfl) (by kernel_rfl) (fun _ _ _ h => h) (Or.inl ⟨by rfl, ?_⟩) (by assumption) ?_
                          rotate_left
                          · (intro w hSw; (try dsimp only at hSw); go_simp; try with_reducible rfl)
                          try simp only [Act.put, List.setIfInBounds_toArray, List.set_cons_zero, List.set_cons_succ]
                          refine wpAnyH_take (i := 10) (oi := { dst := some 123, op := Go.Op.indexAddr 32 (Go.Operand.tmp 118) (Go.Operand.tmp 122), type := 0, pos := "l15_stack.go:50", after := #[{ on := 5, ground := Go.Ground.data }, { on := 9, ground := Go.Ground.data }], guard := none }) (v := ?_) rfl (by kernel_rfl) (by kernel_rfl) (by kernel_rfl) (fun _ _ _ h => h) (Or.inl ⟨by rfl, ?_⟩) (by assumption) ?_
                          rotate_left
                          · (intro w hSw; (try dsimp only at hSw); go_simp; try with_reducible rfl)
                          try simp only [Act.put, List.setIfInBounds_toArray, List.set_cons_zero, List.set_cons_succ]
                          refine wpAnyH_take (i := 11) (oi := { dst := some 124, op := Go.Op.load 3 (Go.Operand.tmp 123), type := 3, pos := "l15_stack.go:50", after := #[{ on := 10, ground := Go.Ground.data }], guard := none }) (v := ?_) rfl (by kernel_rfl) (by kernel_rfl) (by kernel_rfl) (fun _ _ _ h => h) (Or.inl ⟨by rfl, ?_⟩) (by assumption) ?_
                          rotate_left
                          · (intro w hSw; (try dsimp only at hSw); go_simp; try with_reducible rfl)
                          try simp only [Act.put, List.setIfInBounds_toArray, List.set_cons_zero, List.set_cons_succ]
                          refine wpAnyH_ready (rs := [12]) (by kernel_rfl) (by simp) ?_
                          refine AllReadyH.cons (o := { dst := some 125, op := Go.Op.call { callee := Go.Callee.value (Go.Operand.func 72), args := #[Go.Operand.tmp 113, Go.Operand.tmp 114, Go.Operand.tmp 124], argTypes := #[25, 3, 3] }, type := 3, pos := "l15_stack.go:50", after := #[{ on := 0, ground := Go.Ground.data }, { on := 1, ground := Go.Ground.data }, { on := 11, ground := Go.Ground.data }], guard := none }) rfl (fun K12 hK12 => ?_) AllReadyH.nil
                          go_simp
                          (refine (HNb.out _).mono ?_; rintro e v1 ⟨rfl, hb1⟩; have Hw5 := Lib.hid (Hw4.out.dr.call hb1); have k0 := cell_keep hb1 c0; have k1 := cell_keep hb1 c1'; have k2 := cell_keep hb1 e2; have k3 := cell_keep hb1 e3; have k4 := cell_keep hb1 f1; clear hb1)
                          go_wp2_with fail
                          refine hK12.out _ _ ?_ (fun hHeld1 => ?_)
                          · (try dsimp only); go_keep
                          clear hK12 K12 hHeld0
                          try simp only [Act.put, List.setIfInBounds_toArray, List.set_cons_zero, List.set_cons_succ]
                          refine wpAnyH_take (i := 13) (oi := { dst := some 16, op := Go.Op.assign (Go.Operand.tmp 125), type := 3, pos := "l15_stack.go:50", after := #[{ on := 12, ground := Go.Ground.data }, { on := 12, ground := Go.Ground.chain }, { on := 0, ground := Go.Ground.phase }, { on := 1, ground := Go.Ground.phase }, { on := 2, ground := Go.Ground.phase }, { on := 3, ground := Go.Ground.phase }, { on := 4, ground := Go.Ground.phase }, { on := 5, ground := Go.Ground.phase }, { on := 6, ground := Go.Ground.phase }, { on := 7, ground := Go.Ground.phase }, { on := 8, ground := Go.Ground.phase }, { on := 9, ground := Go.Ground.phase }, { on := 10, ground := Go.Ground.phase }, { on := 11, ground := Go.Ground.phase }, { on := 12, ground := Go.Ground.phase }], guard := none }) (v := ?_) rfl (by kernel_rfl) (by kernel_rfl) (by kernel_rfl) (fun _ _ _ h => h) (Or.inl ⟨by rfl, ?_⟩) (by assumption) ?_
                          rotate_left
                          · (intro w hSw; (try dsimp only at hSw); go_simp; try with_reducible rfl)
                          try simp only [Act.put, List.setIfInBounds_toArray, List.set_cons_zero, List.set_cons_succ]
                          refine wpAnyH_done (by kernel_rfl) ?_ _
                          go_wp2_with fail
                          go_roundg f
                          case measure => omega
                          case rel => exact ⟨w2 ++ [(kc : Int)], nv, t2, rfl, rfl, HRn.out, by have h1 := Hmm.out; have h2 := Hms.out; omega, Hnx.out, Hw5.out⟩
                        · have HRn := Lib.hid (HRnone.out hlt)
                          have hx3 : ((rwA ls kc).length : Int) ≤ ((t2 kc : Nat) : Int) := by omega
                          clear hlt r2 HRnext HStep HTop HRnone HNbr HRow
                          generalize (rwA ls kc).length = ln at *
                          generalize hts : t2 kc = tk at *
                          clear hts
                          go_wp2_with fail
                          go_quiet (fail)
                          have Hw3 := Lib.hid (Hw.out.drs nq)
                          generalize wr.drewN nq = X3 at *
                          clear c0 c1' f1 f2 e2 Hw How
                          obtain ⟨⟨m0, m1, m2⟩, -⟩ := row3_cells Hw3.out.1.2.1.2.2
                          obtain ⟨⟨n0, n1, n2⟩, q0, q1, q2⟩ := row3_cells Hw3.out.1.2.1.2.1
                          go_wp2_with fail
                          refine ret_set3 n0 n1 n2 fun Y d0 d1 d2 hY => ?_
                          exact bodyPost_ret (v := .tuple #[.agg #[.int .i64 x, .int .i64 y, .int .i64 o], .int .i64 0, .bool false]) (by simp [results, Try.results74, go_sem, d0, d1, d2]) rfl (HKn.out o Y HRn.out (mz_end Hw3.out.1 hY))
                  · have htk : w.take (ixN w kc) = w := by rw [ix_none hm, List.take_length]
                    have hbk : bmp t1 (w.drop (ixN w kc)) = t1 := by rw [ix_none hm, List.drop_length, bmp_nil]
                    rw [ea_out (Nat.le_refl _) hm]
                    simp only [htk, hbk] at HStep HTop HRnext HRnone Hhalf htb2
                    have hw0 := Hwz.out
                    clear hm htk hbk Hwz
                    go_wp2_with fail
                    have Hw := Lib.hid hw0
                    obtain ⟨c0, c1'⟩ := hw0.1.2.1.1.1
                    obtain ⟨f1, f2⟩ := hw0.1.tcell hkn
                    obtain ⟨Ai, ci, e2, r2⟩ := hw0.1.rcell HA.out hkl
                    have hsz := hw0.2.2.1.2.2
                    have how := hw0.2.2.2
                    have How := Lib.hid how
                    clear hw0 how
                    by_cases hlt : t1 kc < (rwA ls kc).length
                    · obtain ⟨hnx, hmm⟩ := HStep.out hlt
                      have Hnx := Lib.hid hnx
                      have Hmm := Lib.hid hmm
                      obtain ⟨g1, g2, g3, g4, g5⟩ := HTop.out hlt
                      obtain ⟨ai, rfl, hai, e3⟩ := ints_cell r2 g1
                      have HRn := Lib.hid (HRnext.out hlt)
                      have HNb := Lib.hid (fun X => HNbr.out kc (awZ ls t1 kc) X)
                      have h60 := HRow.out kc
                      have hx1 : (0 : Int) ≤ ((t1 kc : Nat) : Int) := Int.natCast_nonneg _
                      have hx2 : ((t1 kc : Nat) : Int) < ((rwA ls kc).length : Int) := by omega
                      have hx3 : ¬ ((rwA ls kc).length : Int) ≤ ((t1 kc : Nat) : Int) := by omega
                      clear hlt hnx hmm g2 g3 g4 g5 r2 HRnext HStep HTop HRnone HNbr HRow
                      generalize hd : awZ ls t1 kc = d at *
                      generalize hnv : nxZ x y ls t1 kc = nv at *
                      have hnb : nbZ x y kc d = nv := by rw [← hd, ← hnv]; rfl
                      rw [hnb] at HNb
                      clear hnb hd hnv
                      have Hg1 := Lib.hid g1
                      clear g1
                      generalize hln : (rwA ls kc).length = ln at *
                      generalize hts : t1 kc = tk at *
                      have Hts := Lib.hid hts
                      have Hln := Lib.hid hln
                      clear hts hln
                      go_wp2_with fail
                      go_quiet (fail)
                      clear c0 c1' f1 f2 e2 e3
                      have Hw3 := Lib.hid (Hw.out.drs nq)
                      generalize wr.drewN nq = X3 at *
                      have hsz3 := Hw3.out.2.2.1.2.2
                      clear hsz How Hw
                      go_wp2_with (at_builtin; refine wpList_append_lies _ rfl (.tmp 109) (.tmp 111) 32 rfl (bw) 3 i0 _ 1 8 Try.underlying32 hi0 hz0 hz1 hz2 rfl (by omega) _ (w.length) _ rfl (Hw3.out.2.2.2.alloc _) ⟨X3.heap.size, 0, none⟩ 1 1 (icells [(kc : Int)]) rfl rfl (news_eqI rfl (heap_alloc_new X3 _)) (oneCellI _) (by omega) (by unfold maxLen; omega) (by omega) (by simp; omega) (X3.heap.size + 1) (by simp) ?_; intro gg cap w3 hown' hgrow hat hlt2; clear hlt2; have HAt := Lib.hid hat; clear hat)
                      have Hw4 := Lib.hid (Hw3.out.app hown' hgrow)
                      clear hown' hgrow HAt Hw3 hsz3
                      generalize w.length + 1 = wl at *
                      obtain ⟨c0, c1'⟩ := Hw4.out.1.2.1.1.1
                      obtain ⟨f1, f2⟩ := Hw4.out.1.tcell hkn
                      obtain ⟨Ai', ci', e2, r2⟩ := Hw4.out.1.rcell HA.out hkl
                      rw [Hts.out] at f1
                      rw [Hln.out] at e2
                      obtain ⟨ai', rfl, hai', e3⟩ := ints_cell r2 Hg1.out
                      try simp only [List.cons_append, List.nil_append, List.append_eq]
                      refine wp_region_held_drew (S := (fun w' => w'.cell? ⟨W.heap.size, 0, none⟩ = some (.int .i64 x) ∧ w'.cell? ⟨W.heap.size, 1, none⟩ = some (.int .i64 y) ∧ w'.cell? (ad.add kc) = some (.slice (some ai') ln ci') ∧ w'.cell? (ai'.add tk) = some (.int .i64 d) ∧ w'.cell? ⟨W.heap.size + 1 + 1 + 1, kc, none⟩ = some (.int .i64 tk))) (by kernel_rfl) ?_ (fun hHeld0 => ?_)
                      · (try dsimp only); go_keep
                      refine wpAnyH_take (i := 0) (oi := { dst := some 113, op := Go.Op.load 25 (Go.Operand.tmp 3), type := 25, pos := "l15_stack.go:50", after := #[], guard := none }) (v := ?_) rfl (by kernel_rfl) (by kernel_rfl) (by kernel_rfl) (fun _ _ _ h => h) (Or.inl ⟨by rfl, ?_⟩) (by assumption) ?_
                      rotate_left
                      · (intro w hSw; (try dsimp only at hSw); go_simp; try with_reducible rfl)
                      try simp only [Act.put, List.setIfInBounds_toArray, List.set_cons_zero, List.set_cons_succ]
                      refine wpAnyH_take (i := 1) (oi := { dst := some 114, op := Go.Op.move (Go.Operand.tmp 16), type := 3, pos := "l15_stack.go:50", after := #[], guard := none }) (v := ?_) rfl (by kernel_rfl) (by kernel_rfl) (by kernel_rfl) (fun _ _ _ h => h) (Or.inl ⟨by rfl, ?_⟩) (by assumption) ?_
                      rotate_left
                      · (intro w hSw; (try dsimp only at hSw); go_simp; try with_reducible rfl)
                      try simp only [Act.put, List.setIfInBounds_toArray, List.set_cons_zero, List.set_cons_succ]
                      refine wpAnyH_take (i := 2) (oi := { dst := some 115, op := Go.Op.move (Go.Operand.tmp 1), type := 37, pos := "l15_stack.go:50", after := #[], guard := none }) (v := ?_) rfl (by kernel_rfl) (by kernel_rfl) (by kernel_rfl) (fun _ _ _ h => h) (Or.inl ⟨by rfl, ?_⟩) (by assumption) ?_
                      rotate_left
                      · (intro w hSw; (try dsimp only at hSw); go_simp; try with_reducible rfl)
                      try simp only [Act.put, List.setIfInBounds_toArray, List.set_cons_zero, List.set_cons_succ]
                      refine wpAnyH_take (i := 3) (oi := { dst := some 116, op := Go.Op.move (Go.Operand.tmp 16), type := 3, pos := "l15_stack.go:50", after := #[], guard := none }) (v := ?_) rfl (by kernel_rfl) (by kernel_rfl) (by kernel_rfl) (fun _ _ _ h => h) (Or.inl ⟨by rfl, ?_⟩) (by assumption) ?_
                      rotate_left
                      · (intro w hSw; (try dsimp only at hSw); go_simp; try with_reducible rfl)
                      try simp only [Act.put, List.setIfInBounds_toArray, List.set_cons_zero, List.set_cons_succ]
                      refine wpAnyH_take (i := 4) (oi := { dst := some 117, op := Go.Op.indexAddr 37 (Go.Operand.tmp 115) (Go.Operand.tmp 116), type := 0, pos := "l15_stack.go:50", after := #[{ on := 2, ground := Go.Ground.data }, { on := 3, ground := Go.Ground.data }], guard := none }) (v := ?_) rfl (by kernel_rfl) (by kernel_rfl) (by kernel_rfl) (fun _ _ _ h => h) (Or.inl ⟨by rfl, ?_⟩) (by assumption) ?_
                      rotate_left
                      · (intro w hSw; (try dsimp only at hSw); go_simp; try with_reducible rfl)
                      try simp only [Act.put, List.setIfInBounds_toArray, List.set_cons_zero, List.set_cons_succ]
                      refine wpAnyH_take (i := 5) (oi := { dst := some 118, op := Go.Op.load 32 (Go.Operand.tmp 117), type := 32, pos := "l15_stack.go:50", after := #[{ on := 4, ground := Go.Ground.data }], guard := none }) (v := ?_) rfl (by kernel_rfl) (by kernel_rfl) (by kernel_rfl) (fun _ _ _ h => h) (Or.inl ⟨by rfl, ?_⟩) (by assumption) ?_
                      rotate_left
                      · (intro w hSw; (try dsimp only at hSw); go_simp; try with_reducible rfl)
                      try simp only [Act.put, List.setIfInBounds_toArray, List.set_cons_zero, List.set_cons_succ]
                      refine wpAnyH_take (i := 6) (oi := { dst := some 119, op := Go.Op.move (Go.Operand.tmp 10), type := 32, pos := "l15_stack.go:50", after := #[], guard := none }) (v := ?_) rfl (by kernel_rfl) (by kernel_rfl) (by kernel_rfl) (fun _ _ _ h => h) (Or.inl ⟨by rfl, ?_⟩) (by assumption) ?_
                      rotate_left
                      · (intro w hSw; (try dsimp only at hSw); go_simp; try with_reducible rfl)
                      try simp only [Act.put, List.setIfInBounds_toArray, List.set_cons_zero, List.set_cons_succ]
                      refine wpAnyH_take (i := 7) (oi := { dst := some 120, op := Go.Op.move (Go.Operand.tmp 16), type := 3, pos := "l15_stack.go:50", after := #[], guard := none }) (v := ?_) rfl (by kernel_rfl) (by kernel_rfl) (by kernel_rfl) (fun _ _ _ h => h) (Or.inl ⟨by rfl, ?_⟩) (by assumption) ?_
                      rotate_left
                      · (intro w hSw; (try dsimp only at hSw); go_simp; try with_reducible rfl)
                      try simp only [Act.put, List.setIfInBounds_toArray, List.set_cons_zero, List.set_cons_succ]
                      refine wpAnyH_take (i := 8) (oi := { dst := some 121, op := Go.Op.indexAddr 32 (Go.Operand.tmp 119) (Go.Operand.tmp 120), type := 0, pos := "l15_stack.go:50", after := #[{ on := 6, ground := Go.Ground.data }, { on := 7, ground := Go.Ground.data }], guard := none }) (v := ?_) rfl (by kernel_rfl) (by kernel_rfl) (by kernel_rfl) (fun _ _ _ h => h) (Or.inl ⟨by rfl, ?_⟩) (by assumption) ?_
                      rotate_left
                      · (intro w hSw; (try dsimp only at hSw); go_simp; try with_reducible rfl)
                      try simp only [Act.put, List.setIfInBounds_toArray, List.set_cons_zero, List.set_cons_succ]
                      refine wpAnyH_take (i := 9) (oi := { dst := some 122, op := Go.Op.load 3 (Go.Operand.tmp 121), type := 3, pos := "l15_stack.go:50", after := #[{ on := 8, ground := Go.Ground.data }], guard := none }) (v := ?_) rfl (by kernel_rfl) (by kernel_rfl) (by kernel_rfl) (fun _ _ _ h => h) (Or.inl ⟨by rfl, ?_⟩) (by assumption) ?_
                      rotate_left
                      · (intro w hSw; (try dsimp only at hSw); go_simp; try with_reducible rfl)
                      try simp only [Act.put, List.setIfInBounds_toArray, List.set_cons_zero, List.set_cons_succ]
                      refine wpAnyH_take (i := 10) (oi := { dst := some 123, op := Go.Op.indexAddr 32 (Go.Operand.tmp 118) (Go.Operand.tmp 122), type := 0, pos := "l15_stack.go:50", after := #[{ on := 5, ground := Go.Ground.data }, { on := 9, ground := Go.Ground.data }], guard := none }) (v := ?_) rfl (by kernel_rfl) (by kernel_rfl) (by kernel_rfl) (fun _ _ _ h => h) (Or.inl ⟨by rfl, ?_⟩) (by assumption) ?_
                      rotate_left
                      · (intro w hSw; (try dsimp only at hSw); go_simp; try with_reducible rfl)
                      try simp only [Act.put, List.setIfInBounds_toArray, List.set_cons_zero, List.set_cons_succ]
                      refine wpAnyH_take (i := 11) (oi := { dst := some 124, op := Go.Op.load 3 (Go.Operand.tmp 123), type := 3, pos := "l15_stack.go:50", after := #[{ on := 10, ground := Go.Ground.data }], guard := none }) (v := ?_) rfl (by kernel_rfl) (by kernel_rfl) (by kernel_rfl) (fun _ _ _ h => h) (Or.inl ⟨by rfl, ?_⟩) (by assumption) ?_
                      rotate_left
                      · (intro w hSw; (try dsimp only at hSw); go_simp; try with_reducible rfl)
                      try simp only [Act.put, List.setIfInBounds_toArray, List.set_cons_zero, List.set_cons_succ]
                      refine wpAnyH_ready (rs := [12]) (by kernel_rfl) (by simp) ?_
                      refine AllReadyH.cons (o := { dst := some 125, op := Go.Op.call { callee := Go.Callee.value (Go.Operand.func 72), args := #[Go.Operand.tmp 113, Go.Operand.tmp 114, Go.Operand.tmp 124], argTypes := #[25, 3, 3] }, type := 3, pos := "l15_stack.go:50", after := #[{ on := 0, ground := Go.Ground.data }, { on := 1, ground := Go.Ground.data }, { on := 11, ground := Go.Ground.data }], guard := none }) rfl (fun K12 hK12 => ?_) AllReadyH.nil
                      go_simp
                      (refine (HNb.out _).mono ?_; rintro e v1 ⟨rfl, hb1⟩; have Hw5 := Lib.hid (Hw4.out.dr.call hb1); have k0 := cell_keep hb1 c0; have k1 := cell_keep hb1 c1'; have k2 := cell_keep hb1 e2; have k3 := cell_keep hb1 e3; have k4 := cell_keep hb1 f1; clear hb1)
                      go_wp2_with fail
                      refine hK12.out _ _ ?_ (fun hHeld1 => ?_)
                      · (try dsimp only); go_keep
                      clear hK12 K12 hHeld0
                      try simp only [Act.put, List.setIfInBounds_toArray, List.set_cons_zero, List.set_cons_succ]
                      refine wpAnyH_take (i := 13) (oi := { dst := some 16, op := Go.Op.assign (Go.Operand.tmp 125), type := 3, pos := "l15_stack.go:50", after := #[{ on := 12, ground := Go.Ground.data }, { on := 12, ground := Go.Ground.chain }, { on := 0, ground := Go.Ground.phase }, { on := 1, ground := Go.Ground.phase }, { on := 2, ground := Go.Ground.phase }, { on := 3, ground := Go.Ground.phase }, { on := 4, ground := Go.Ground.phase }, { on := 5, ground := Go.Ground.phase }, { on := 6, ground := Go.Ground.phase }, { on := 7, ground := Go.Ground.phase }, { on := 8, ground := Go.Ground.phase }, { on := 9, ground := Go.Ground.phase }, { on := 10, ground := Go.Ground.phase }, { on := 11, ground := Go.Ground.phase }, { on := 12, ground := Go.Ground.phase }], guard := none }) (v := ?_) rfl (by kernel_rfl) (by kernel_rfl) (by kernel_rfl) (fun _ _ _ h => h) (Or.inl ⟨by rfl, ?_⟩) (by assumption) ?_
                      rotate_left
                      · (intro w hSw; (try dsimp only at hSw); go_simp; try with_reducible rfl)
                      try simp only [Act.put, List.setIfInBounds_toArray, List.set_cons_zero, List.set_cons_succ]
                      refine wpAnyH_done (by kernel_rfl) ?_ _
                      go_wp2_with fail
                      go_roundg f
                      case measure => omega
                      case rel => exact ⟨w ++ [(kc : Int)], nv, t1, rfl, rfl, HRn.out, by have h1 := Hmm.out; have h2 := Hms.out; omega, Hnx.out, Hw5.out⟩
                    · have HRn := Lib.hid (HRnone.out hlt)
                      have hx3 : ((rwA ls kc).length : Int) ≤ ((t1 kc : Nat) : Int) := by omega
                      clear hlt r2 HRnext HStep HTop HRnone HNbr HRow
                      generalize (rwA ls kc).length = ln at *
                      generalize hts : t1 kc = tk at *
                      clear hts
                      go_wp2_with fail
                      go_quiet (fail)
                      have Hw3 := Lib.hid (Hw.out.drs nq)
                      generalize wr.drewN nq = X3 at *
                      clear c0 c1' f1 f2 e2 Hw How
                      obtain ⟨⟨m0, m1, m2⟩, -⟩ := row3_cells Hw3.out.1.2.1.2.2
                      obtain ⟨⟨n0, n1, n2⟩, q0, q1, q2⟩ := row3_cells Hw3.out.1.2.1.2.1
                      go_wp2_with fail
                      refine ret_set3 n0 n1 n2 fun Y d0 d1 d2 hY => ?_
                      exact bodyPost_ret (v := .tuple #[.agg #[.int .i64 x, .int .i64 y, .int .i64 o], .int .i64 0, .bool false]) (by simp [results, Try.results74, go_sem, d0, d1, d2]) rfl (HKn.out o Y HRn.out (mz_end Hw3.out.1 hY))
        · obtain rfl : i = ord.length := by omega
          have hR : RR = some (t, L, o) := by rw [← Hpp.out, List.drop_length]; rfl
          have HR := Lib.hid hR
          obtain ⟨⟨m0, m1, m2⟩, -⟩ := row3_cells Hm.out.2.1.2.2
          obtain ⟨⟨n0, n1, n2⟩, q0, q1, q2⟩ := row3_cells Hm.out.2.1.2.1
          have HE1 := Lib.hid (fun w' => HKy.out t L o w')
          clear hR Hpp Hz Hall HKn HKy
          generalize tot t k = T1 at *
          go_wp2_with fail
          refine ret_set3 n0 n1 n2 fun Y d0 d1 d2 hY => ?_
          exact bodyPost_ret (v := .tuple #[.agg #[.int .i64 x, .int .i64 y, .int .i64 o], .int .i64 (T1 : Int), .bool true]) (by simp [results, Try.results74, go_sem, d0, d1, d2]) rfl (HE1.out Y HR.out (mz_end Hm.out hY))
end Go.Proofs.Ytcoikcnijaniaaa.popN
