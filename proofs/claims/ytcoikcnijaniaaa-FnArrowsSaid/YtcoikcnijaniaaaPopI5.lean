/- The contract of the program's popArrows. -/
import Derived.Test.YtcoikcnijaniaaaPopR
namespace Go.Proofs.Ytcoikcnijaniaaa.popI
open Go.ChangeShapes Go.WideShapes Go.ChangeAt Go.RowKit Go.Maps
open draw gridP gridC gridE bitP mazeP mazeC mazeM mazeR intsP reachP reachM reachN reachD intA intK listK rowsP setI wayP ersP ersO popP popO popW
set_option linter.unusedVariables false

set_option maxRecDepth 100000 in
set_option maxHeartbeats 20000000 in
theorem popArrows_any (x y : Int) (A : Option Addr) (n c : Nat) (ls : List (List Int)) (A2 : Option Addr) (n2 c2 : Nat) (l : List Int) (W : World) (hn : ls.length = n) (hm : n ≤ 1048576) (hl : ∀ l ∈ ls, l.length ≤ 1048576) (hi : MxIn W W.heap.size A ls) (hn2 : l.length = n2) (hm2 : n2 ≤ 1048576) (hi2 : IntsIn W W.heap.size A2 l) :
    Calls Try.prog 59 #[.agg #[.int .i64 x, .int .i64 y], .slice A n c, .slice A2 n2 c2] W (PopA x y n (.slice A n c) (if aoB x y ls && odB x y l then ppR x y ls l else none) W) := by
  have HQ0 := Lib.hid (fun T T' => @aq_new W x y A A2 ls l hi hi2 T T')
  have HAo := Lib.hid (fun X hi => arrowsOk_any x y A n c ls X hn hm hl hi)
  by_cases hA : aoB x y ls = true
  · have hAo := ao_iff.1 hA
    have HHc := Lib.hid (fun X hi => hasC.hasCells_any x y A2 n2 c2 l X hAo.1 hn2 hm2 hi)
    have HClone := Lib.hid (fun X hi => detI.clone_any A2 n2 c2 l X hn2 hm2 hi)
    rw [hA] at HAo ⊢
    rw [Bool.true_and, od_is, hn2]
    have hN := hAo.n16
    obtain ⟨i0, hi0, hz0, hz1, hz2⟩ := info_parts info_int
    obtain ⟨ad, rfl⟩ : ∃ ad, A = some ad := by
      obtain ⟨ad, e, -⟩ := mx_cell hi (ao_rows hAo (show 0 < ls.length by omega))
      exact ⟨ad, e⟩
    have HOrd0 := Lib.hid (fun (h : (l.any fun u => !decide (0 ≤ u ∧ u < x * y)) = false) => bg_rng (k := n) (any_all h) (by omega))
    have Hao := Lib.hid hAo
    have HNn : Hid (x * y = (n : Int) ∧ ls.length = n) := Lib.hid ⟨by omega, hn⟩
    have HPP : Hid (ppA x y ls (bgK l n) (fun _ => 0) [0] 0 = ppR x y ls l) := Lib.hid (by unfold ppR bgL; rw [hn]; rfl)
    have hn16 : n ≤ 16 := by omega
    have Hn2 := Lib.hid hn2
    clear hi hi2 hn hn2 hl hA hAo hN
    by_cases h100 : n2 ≤ 100
    · have h100' : ¬ (100 : Int) < (n2 : Int) := by omega
      rw [decide_eq_true h100, Bool.true_and]
      cases hany : (l.any fun u => !decide (0 ≤ u ∧ u < x * y)) with
      | true =>
        have HK0 : Hid (∀ w', Below W.heap.size W w' → PopA x y n (.slice (some ad) n c) (if (!true) = true then ppR x y ls l else none) W (.returned (.tuple #[.agg #[.int .i64 0, .int .i64 0, .int .i64 0, .map none, .slice none 0 0, .map none], .bool false])) w') := Lib.hid fun w' h => ⟨h, .inr ⟨rfl, rfl⟩⟩
        generalize (if (!true) = true then ppR x y ls l else none) = R at *
        rw [hany] at HHc
        go_enter Try.func59, Try.ntmps59
        have Hq0 := Lib.hid (HQ0.out 25 81)
        clear HQ0
        go_wp2_with fail
        refine (HAo.out _ (Hq0.out.2.2.2.1.more Hq0.out.1.size)).mono ?_
        rintro e w1 ⟨rfl, hb⟩
        have Hq1 := Lib.hid (Hq0.out.call hb)
        clear hb Hq0 HAo
        obtain ⟨c0, c1⟩ := Hq1.out.2.1.1
        go_wp2_with fail
        refine (HHc.out _ (Hq1.out.2.2.2.2.more Hq1.out.1.size)).mono ?_
        rintro e w3 ⟨rfl, hb⟩
        have Hq3 := Lib.hid (Hq1.out.call hb)
        clear hb Hq1 HHc c0 c1
        obtain ⟨⟨z0, z1, z2, z3, z4, z5⟩, f0, f1, f2, f3, f4, f5⟩ := zero6_cells Hq3.out.2.2.1
        go_wp2_with fail
        obtain ⟨T, hT⟩ := Hq3.out.2.2.1
        refine ret_set6 hT fun Y hY hg => ?_
        obtain ⟨d0, d1, d2, d3, d4, d5⟩ := hY
        exact bodyPost_ret (v := .tuple #[.agg #[.int .i64 0, .int .i64 0, .int .i64 0, .map none, .slice none 0 0, .map none], .bool false]) (by simp [results, Try.results59, go_sem, d0, d1, d2, d3, d4, d5]) rfl (HK0.out _ (Hq3.out.1.grown hg Hq3.out.1.size fun g e => by cases e; omega))
      | false =>
        rw [hany] at HHc
        have HOrd := Lib.hid (HOrd0.out hany)
        rw [show (if (!false) = true then ppR x y ls l else none) = ppR x y ls l from rfl]
        have HKy : Hid (∀ t L o P bi bt w', ppR x y ls l = some (t, L, o) → Below W.heap.size W w' → PS P bi bt n x y (.slice (some ad) n c) t L o w' → tot t n ≤ 960 → PopA x y n (.slice (some ad) n c) (ppR x y ls l) W (.returned (.tuple #[.agg #[.int .i64 x, .int .i64 y, .int .i64 o, .map (some bi), (.slice (some ad) n c), .map (some bt)], .bool true])) w') := Lib.hid fun t L o P bi bt w' h1 h2 h3 h4 => ⟨h2, .inl ⟨t, L, o, P, bi, bt, h1, rfl, h3, h4⟩⟩
        have HK0 : Hid (∀ w', ppR x y ls l = none → Below W.heap.size W w' → PopA x y n (.slice (some ad) n c) (ppR x y ls l) W (.returned (.tuple #[.agg #[.int .i64 0, .int .i64 0, .int .i64 0, .map none, .slice none 0 0, .map none], .bool false])) w') := Lib.hid fun w' h1 h => ⟨h, .inr ⟨h1, rfl⟩⟩
        generalize ppR x y ls l = RR at *
        clear hany HOrd0
        go_enter Try.func59, Try.ntmps59
        have Hq0 := Lib.hid (HQ0.out 25 81)
        clear HQ0
        go_wp2_with fail
        refine (HAo.out _ (Hq0.out.2.2.2.1.more Hq0.out.1.size)).mono ?_
        rintro e w1 ⟨rfl, hb⟩
        have Hq1 := Lib.hid (Hq0.out.call hb)
        clear hb Hq0 HAo
        obtain ⟨c0, c1⟩ := Hq1.out.2.1.1
        go_wp2_with fail
        refine (HHc.out _ (Hq1.out.2.2.2.2.more Hq1.out.1.size)).mono ?_
        rintro e w3 ⟨rfl, hb⟩
        have Hq3 := Lib.hid (Hq1.out.call hb)
        have hsz3 : W.heap.size + 2 ≤ w3.heap.size := by have := zero6_lt Hq3.out.2.2.1; omega
        clear hb Hq1 HHc c0 c1
        go_wp2_with fail
        obtain ⟨c0, c1⟩ := Hq3.out.2.1.1
        refine pop_made W _ x y (some ad) A2 n c ls l _ _ _ _ _ _ _ _ _ _ _ _ _ _ _ _ _ _ _ _ _ _ _ _ _ _ _ _ _ _ _ _ _ _ _ _ _ _ _ _ _ _ _ _ _ _ _ _ _ _ _ _ _ _ _ _ _ _ _ _ _ _ _ _ _ _ Hq3 (fun d v c a w h => by cases d <;> exact h) (Lib.hid fun P bi bt v31 v32 v33 v34 v35 v36 v37 X hX => ?_)
        obtain ⟨hps, hbel, hP, hbi, hbt⟩ := hX
        have Hq5 := Lib.hid (AQ.call Hq3.out hbel)
        have Hps := Lib.hid hps
        have hbs : W.heap.size ≤ P ∧ W.heap.size ≤ bi ∧ W.heap.size ≤ bt := by omega
        clear hps hbel Hq3 c0 c1
        go_wp2_with fail
        refine (HClone.out _ (Hq5.out.2.2.2.2.more Hq5.out.1.size)).mono ?_
        rintro e w5 ⟨v5, rfl, ho, hb⟩
        obtain ⟨br, hg5⟩ : ∃ br, GQ W x y (some ad) A2 ls l P bi bt n (.slice (some ad) n c) br (fun _ => 0) [0] 0 l v5 w5 := ⟨_, gq_start Hq5.out Hps.out ho hb (by omega) (by omega) (by omega)⟩
        have Hg5 := Lib.hid hg5
        clear hg5 ho hb Hq5 Hps HClone
        go_wp2_with fail
        go_loopw [9, 42] (fun u9 u42 wr => ∃ k : Nat, k ≤ n ∧ u42 = .int .i64 k ∧ GQ W x y (some ad) A2 ls l P bi bt n (.slice (some ad) n c) br (fun _ => 0) [0] 0 (bgK l k) u9 wr) (fun _ u42 _ => n - (intOf u42).toNat)
        case atStart => exact ⟨0, Nat.zero_le _, rfl, by rw [bgK_zero]; exact Hg5.out⟩
        case round =>
          clear Hg5
          obtain ⟨k, hk, rfl, hg⟩ := hrel
          have Hg := Lib.hid hg
          obtain ⟨A3, c3, rfl⟩ := own_form hg.2.2.1
          have hbrs := hg.2.2.2.2.2
          have hbl := bgK_len l k
          have hbl' : (bgK l k).length ≤ 116 := by have := Hn2.out; omega
          clear hg hbl
          have hk0 : (0 : Int) ≤ (k : Int) := Int.natCast_nonneg _
          by_cases hkn : k < n
          · have hk1 : (k : Int) < (n : Int) := by omega
            have HBn := Lib.hid (bgK_next l k)
            generalize hB : bgK l k = B at *
            go_wp2_with (at_builtin; refine wpList_append_lies _ rfl (.tmp 45) (.tmp 47) 32 rfl (br) 3 i0 _ 1 8 Try.underlying32 hi0 hz0 hz1 hz2 rfl (by omega) _ (B.length) _ rfl (Hg.out.2.2.1.alloc _) ⟨wr.heap.size, 0, none⟩ 1 1 (icells [(k : Int)]) rfl rfl (news_eqI rfl (heap_alloc_new wr _)) (oneCellI _) (by omega) (by unfold maxLen; omega) (by omega) (by simp; omega) (wr.heap.size + 1) (by simp) ?_; intro gg cap w3 hown' hgrow hat hlt2; clear hlt2; have HAt := Lib.hid hat; clear hat)
            have Hg2 := Lib.hid (Hg.out.app hown' hgrow)
            clear hown' hgrow HAt Hg
            go_wp2_with fail
            go_roundw
            case rel => exact ⟨k + 1, by omega, by go_num, by rw [HBn.out]; exact Hg2.out⟩
            case measure => simp [intOf]; omega
          · obtain rfl : k = n := by omega
            generalize bgK l k = ord at *
            go_wp2_with fail
            go_loopw [52] (fun u52 wq => ∃ (i : Nat) (t : Int → Nat) (L : List Int) (o : Int), i ≤ ord.length ∧ u52 = .int .i64 i ∧ ppA x y ls (ord.drop i) t L o = RR ∧ (0 : Int) ∈ L ∧ (∀ u, t u ≤ (rwA ls u).length) ∧ L.length ≤ 1 + 16 * i ∧ GQ W x y (some ad) A2 ls l P bi bt k (.slice (some ad) k c) br t L o ord (.slice A3 ord.length c3) wq) (fun u52 _ => ord.length - (intOf u52).toNat)
            case atStart => exact ⟨0, fun _ => 0, [0], 0, Nat.zero_le _, rfl, HPP.out, by simp, fun _ => Nat.zero_le _, by simp, Hg.out⟩
            case round =>
              clear Hg HPP hbrs
              obtain ⟨i, t, L, o, hio, rfl, hpp, hz, hall, hLl, hg⟩ := hrel
              have Hg := Lib.hid hg
              have Hpp := Lib.hid hpp
              have Hz := Lib.hid hz
              have Hall := Lib.hid hall
              clear hpp hz hall
              have hib0 : (0 : Int) ≤ (i : Int) := Int.natCast_nonneg _
              by_cases hio' : i < ord.length
              · have hib1 : (i : Int) < (ord.length : Int) := by omega
                obtain ⟨cc, hcc⟩ : ∃ cc, ord[i]? = some cc := ⟨ord[i], List.getElem?_eq_getElem hio'⟩
                have hcr := HOrd.out cc (List.mem_of_getElem? hcc)
                obtain ⟨go, cgo, hge, hgo1, hgo2⟩ := own_some hg.2.2.1 (by omega)
                cases hge
                have hcell := own_cellI hg.2.2.1 hcc
                have Hdr : Hid (ord.drop i = cc :: ord.drop (i + 1)) := Lib.hid (by rw [List.drop_eq_getElem_cons hio']; congr 1; rw [List.getElem?_eq_getElem hio'] at hcc; exact Option.some.inj hcc)
                have Hpn : Hid (pwW x y ls L 20000 [] cc t = none → RR = none) := Lib.hid fun h => by rw [← Hpp.out, Hdr.out, pp_none h]
                have Hpq : Hid (∀ w t', pwW x y ls L 20000 [] cc t = some (w, t') → ppA x y ls (ord.drop (i + 1)) t' (L ++ w) (jnO x y ls t' w o) = RR) := Lib.hid fun w t' h => by rw [← Hpp.out, Hdr.out, pp_some h]
                have HWk := Lib.hid (walk_any x y ad k c ls P bi bt W.heap.size t L o cc wr Hao.out HNn.out.2 hg.2.1 hg.1.2.2.2.1 hbs Hz.out Hall.out hcr)
                generalize hPR : pwW x y ls L 20000 [] cc t = PR at *
                have hlt := hg.2.1.lt
                clear hcc hcr hPR Hdr Hpp hg
                go_wp2_with fail
                refine HWk.out.mono ?_
                rintro e w6 hwr
                clear hcell HWk
                rcases hwr with ⟨w, t', v, c', hR, rfl, hwq, hpw⟩ | ⟨hR, rfl, hkp⟩
                · have Hg6 := Lib.hid (Hg.out.kp hwq.2.1.1 hwq.1)
                  have HNx := Lib.hid (Hpq.out w t' hR)
                  have hw16 := hpw.w16
                  have HJn := Lib.hid (join_any x y ad k c ls P bi bt W.heap.size wr.heap.size t' L o c' w v w6 HNn.out.2 hwq.1 Hg6.out.1.2.2.2.1 hbs hpw hwq.2.2 (fun g e => by have := (hwq.2.2.lt g e).1; omega) (by omega))
                  have Hal := Lib.hid hpw.all
                  obtain ⟨Av, cv, rfl⟩ := hwq.form
                  clear hwq hpw hR Hpq Hpn Hg hlt
                  go_wp2_with fail
                  refine HJn.out.mono ?_
                  rintro e w7 ⟨rfl, hj⟩
                  have Hg7 := Lib.hid (Hg6.out.kp hj.2.1 hj.1)
                  clear hj HJn Hg6
                  go_wp2_with fail
                  go_roundw
                  case rel => exact ⟨i + 1, t', L ++ w, jnO x y ls t' w o, by omega, by go_num, HNx.out, List.mem_append_left _ Hz.out, Hal.out, by rw [List.length_append]; omega, Hg7.out⟩
                  case measure => simp [intOf]; omega
                · have HRn := Lib.hid (Hpn.out hR)
                  have Hq6 := Lib.hid (Hg.out.1.kp hkp Hg.out.2.2.2.1.1 Hg.out.2.2.2.1.2.1 Hg.out.2.2.2.1.2.2)
                  clear hR hkp Hpq Hpn Hg hlt
                  obtain ⟨⟨z0, z1, z2, z3, z4, z5⟩, f0, f1, f2, f3, f4, f5⟩ := zero6_cells Hq6.out.2.2.1
                  go_wp2_with fail
                  obtain ⟨T, hT⟩ := Hq6.out.2.2.1
                  refine ret_set6 hT fun Y hY hg => ?_
                  obtain ⟨d0, d1, d2, d3, d4, d5⟩ := hY
                  exact bodyPost_ret (v := .tuple #[.agg #[.int .i64 0, .int .i64 0, .int .i64 0, .map none, .slice none 0 0, .map none], .bool false]) (by simp [results, Try.results59, go_sem, d0, d1, d2, d3, d4, d5]) rfl (HK0.out _ HRn.out (Hq6.out.1.grown hg Hq6.out.1.size fun g e => by cases e; omega))
              · obtain rfl : i = ord.length := by omega
                have hR : RR = some (t, L, o) := by rw [← Hpp.out, List.drop_length]; rfl
                have htb : tot t k ≤ 960 := by have := tot_bd Hao.out Hall.out; rwa [HNn.out.2] at this
                have HE1 := Lib.hid (fun w' a b => HKy.out t L o P bi bt w' hR a b htb)
                obtain ⟨⟨p0, p1, p2, p3, p4, p5⟩, -⟩ := pop6_cells hg.2.1.1.1
                obtain ⟨⟨z0, z1, z2, z3, z4, z5⟩, f0, f1, f2, f3, f4, f5⟩ := zero6_cells hg.1.2.2.1
                clear hR Hpp Hz Hall HKy HK0 hg
                go_wp2_with fail
                obtain ⟨T, hT⟩ := Hg.out.1.2.2.1
                refine ret_set6 hT fun Y hY hg => ?_
                obtain ⟨d0, d1, d2, d3, d4, d5⟩ := hY
                have h2 := Hg.out.2.2.2.1
                exact bodyPost_ret (v := .tuple #[.agg #[.int .i64 x, .int .i64 y, .int .i64 o, .map (some bi), .slice (some ad) k c, .map (some bt)], .bool true]) (by simp [results, Try.results59, go_sem, d0, d1, d2, d3, d4, d5]) rfl (HE1.out _ (Hg.out.1.1.grown hg Hg.out.1.1.size fun g e => by cases e; omega) (Hg.out.2.1.grow hg fun g e => by cases e; omega))
    · have h100' : (100 : Int) < (n2 : Int) := by omega
      rw [decide_eq_false h100, Bool.false_and]
      have HK0 : Hid (∀ w', Below W.heap.size W w' → PopA x y n (.slice (some ad) n c) (if false = true then ppR x y ls l else none) W (.returned (.tuple #[.agg #[.int .i64 0, .int .i64 0, .int .i64 0, .map none, .slice none 0 0, .map none], .bool false])) w') := Lib.hid fun w' h => ⟨h, .inr ⟨rfl, rfl⟩⟩
      generalize (if false = true then ppR x y ls l else none) = R at *
      go_enter Try.func59, Try.ntmps59
      have Hq0 := Lib.hid (HQ0.out 25 81)
      clear HQ0
      go_wp2_with fail
      refine (HAo.out _ (Hq0.out.2.2.2.1.more Hq0.out.1.size)).mono ?_
      rintro e w1 ⟨rfl, hb⟩
      have Hq1 := Lib.hid (Hq0.out.call hb)
      clear hb Hq0 HAo
      obtain ⟨c0, c1⟩ := Hq1.out.2.1.1
      obtain ⟨⟨z0, z1, z2, z3, z4, z5⟩, f0, f1, f2, f3, f4, f5⟩ := zero6_cells Hq1.out.2.2.1
      go_wp2_with fail
      obtain ⟨T, hT⟩ := Hq1.out.2.2.1
      refine ret_set6 hT fun Y hY hg => ?_
      obtain ⟨d0, d1, d2, d3, d4, d5⟩ := hY
      exact bodyPost_ret (v := .tuple #[.agg #[.int .i64 0, .int .i64 0, .int .i64 0, .map none, .slice none 0 0, .map none], .bool false]) (by simp [results, Try.results59, go_sem, d0, d1, d2, d3, d4, d5]) rfl (HK0.out _ (Hq1.out.1.grown hg Hq1.out.1.size fun g e => by cases e; omega))
  · rw [Bool.not_eq_true] at hA
    rw [hA] at HAo ⊢
    have HK : Hid (∀ w', Below W.heap.size W w' → PopA x y n (.slice A n c) (if false && odB x y l then ppR x y ls l else none) W (.returned (.tuple #[.agg #[.int .i64 0, .int .i64 0, .int .i64 0, .map none, .slice none 0 0, .map none], .bool false])) w') := Lib.hid fun w' h => ⟨h, .inr ⟨rfl, rfl⟩⟩
    generalize (if false && odB x y l then ppR x y ls l else none) = R at *
    clear hi hi2 hn hn2 hl hA
    go_enter Try.func59, Try.ntmps59
    have Hq0 := Lib.hid (HQ0.out 25 81)
    clear HQ0
    go_wp2_with fail
    refine (HAo.out _ (Hq0.out.2.2.2.1.more Hq0.out.1.size)).mono ?_
    rintro e w1 ⟨rfl, hb⟩
    have Hq1 := Lib.hid (Hq0.out.call hb)
    clear hb Hq0 HAo
    obtain ⟨⟨z0, z1, z2, z3, z4, z5⟩, f0, f1, f2, f3, f4, f5⟩ := zero6_cells Hq1.out.2.2.1
    go_wp2_with fail
    obtain ⟨T, hT⟩ := Hq1.out.2.2.1
    refine ret_set6 hT fun Y hY hg => ?_
    obtain ⟨d0, d1, d2, d3, d4, d5⟩ := hY
    exact bodyPost_ret (v := .tuple #[.agg #[.int .i64 0, .int .i64 0, .int .i64 0, .map none, .slice none 0 0, .map none], .bool false]) (by simp [results, Try.results59, go_sem, d0, d1, d2, d3, d4, d5]) rfl (HK.out _ (Hq1.out.1.grown hg Hq1.out.1.size fun g e => by cases e; omega))
end Go.Proofs.Ytcoikcnijaniaaa.popI
