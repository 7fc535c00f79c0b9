/- For every code, the law of the fields answers true, and its argument reads as before; the library's tables hold what the program's text lays in them. -/
import Derived.Test.YtijpbjnghkkdeaaDoorCards
import Derived.Test.YtijpbjnghkkdeaaDoorTie
import Derived.Test.YtijpbjnghkkdeaaDoorFmtI
import Derived.Test.YtijpbjnghkkdeaaDoorLawKit
import Derived.Test.YtijpbjnghkkdeaaDoorSplI
import Derived.Test.YtijpbjnghkkdeaaDoorSplS
import Derived.Test.YtijpbjnghkkdeaaDoorSplR
import Derived.Test.YtijpbjnghkkdeaaDoorSameK
import Derived.Test.YtijpbjnghkkdeaaDoorDrawF
import Derived.Deep.DeepHandedRow
import Derived.Lib.LaidTab
import Derived.Stop.LaidErr
import Derived.SevenTiedAt
import Derived.LaidMore
namespace Go.Proofs.YtijpbjnghkkdeaaDoor.fnFieldsAgain
open Go.ChangeShapes Go.WideShapes Go.ChangeAt Go.RowKit
open lawKit fmtI hexP draw fmtP splP splR sameK
set_option linter.unusedVariables false

theorem tab_of {W : World} (h : laidMetH Tryd.prog Rows.fnFieldsAgainRow.laid W) : Tab W := by
  rw [MakeChecks.laidMetH_plain _ _ _ (by kernel_rfl)] at h
  exact Lib.tabIs_of_head (rest := []) gTab gTabType Tryd.underlying78 Tryd.underlying65 cellsU64 cellsArr (laidMet.tail (laidMet.tail h))

theorem itoa_m3 : Lib.itoa (-3) = [45, 51] := by
  rw [itoa_neg (-3) (by omega)]
  show 45 :: dg 3 = _
  rw [dg_step 3 (by omega)]
  decide
theorem scells_map (fs : List (List UInt8)) : scells fs = (fs.map fun f => (⟨f.toArray⟩ : ByteArray)).map Value.string := by simp [scells]
theorem same_ans {s : ByteArray} {fs fs' : List (List UInt8)} {b b' : Bool} (h : (OK s ∧ b = true ∧ fs = split s.data.toList) ∨ (¬ OK s ∧ b = false ∧ fs = [])) (h' : (OK s ∧ b' = true ∧ fs' = split s.data.toList) ∨ (¬ OK s ∧ b' = false ∧ fs' = [])) : fs = fs' ∧ b = b' := by
  rcases h with ⟨h1, rfl, rfl⟩ | ⟨h1, rfl, rfl⟩ <;> rcases h' with ⟨h2, rfl, rfl⟩ | ⟨h2, rfl, rfl⟩
  · exact ⟨rfl, rfl⟩
  · exact absurd h1 h2
  · exact absurd h2 h1
  · exact ⟨rfl, rfl⟩
theorem scells_at (fs : List (List UInt8)) (i : Nat) (h : i < fs.length) : (scells fs)[i]? = some (.string ⟨(fs[i]).toArray⟩) := by
  unfold scells
  rw [List.getElem?_map, List.getElem?_eq_getElem h]; rfl

/-- At the head of a round: i fields are joined. -/
def JoRel (fs : List (List UInt8)) (u8 u9 : Value) : Prop := ∃ i : Nat, i ≤ fs.length ∧ u9 = .int .i64 i ∧ u8 = .string ⟨(joined (fs.take i)).toArray⟩
theorem jo_step {fs : List (List UInt8)} {i : Nat} (h : i < fs.length) : JoRel fs (.string ((⟨(joined (fs.take i)).toArray⟩ : ByteArray) ++ ⟨(fs[i]).toArray⟩ ++ ⟨#[32]⟩)) (.int .i64 ((i : Int) + 1)) := by
  refine ⟨i + 1, h, by go_num, ?_⟩
  rw [joined_succ fs i h]
  congr 1
  apply WideShapes.bytes_inj
  simp [ByteArray.data_append]

/-- The law's answer. -/
def Yes (w : World) (e : Ending) (w' : World) : Prop := e = .returned (.bool true) ∧ Below w.heap.size w w'
theorem yes_mk {w w' : World} (h : Below w.heap.size w w') : Yes w (.returned (.bool true)) w' := ⟨rfl, h⟩

set_option maxRecDepth 100000 in
theorem walk (A : Option Addr) (n c : Nat) (w : World) (hn : n ≤ maxLen) (hb : BytesIn w w.heap.size A n) (ht : Tab w) :
    Calls Tryd.prog 5 #[.slice A n c] w (Yes w) := by
  have HK := @Lib.hid _ (fun w' h => @yes_mk w w' h)
  have HR := Lib.hid (Below.refl w.heap.size w)
  have HN := Lib.hid hn
  have HD := Lib.hid (drawSplitFields_any A n c w hn hb)
  have HF := Lib.hid (fun W (h : Below w.heap.size w W) => fmtI.format_any (-3) W (by omega) (by omega) (ht.below h))
  unfold maxLen at hn
  clear hb ht
  by_cases hbig : 1048576 < n
  · go_enter Tryd.func5, Tryd.ntmps5
    go_wp2_with fail
    refine (big_yes A n c w HN.out hbig).mono ?_
    rintro e w' ⟨rfl, rfl⟩
    go_wp2_with fail
    go_ret
    exact HK.out _ HR.out
  · go_enter Tryd.func5, Tryd.ntmps5
    go_wp2_with fail
    refine (big_no A n c w HN.out (by omega)).mono ?_
    rintro e w' ⟨rfl, rfl⟩
    go_wp2_with fail
    refine HD.out.mono ?_
    rintro e w1 ⟨s, hs, rfl, hb1⟩
    have HS := Lib.hid (show s.size ≤ maxLen by unfold maxLen; omega)
    go_wp2_with fail
    refine (splI.split_any s _ HS.out).mono ?_
    rintro e w2 ⟨v1, fs, b, rfl, hans, hown1, hb2⟩
    have HB2 := Lib.hid (hb1.trans (hb2.mono hb1.size))
    have H1 := Lib.hid hown1
    have HA := Lib.hid hans
    clear hb1 hb2 hown1 hans
    go_wp2_with fail
    refine (splS.split_any s _ HS.out).mono ?_
    rintro e w3 ⟨v0, fs0, b0, rfl, hans0, hown0, hb3⟩
    obtain ⟨rfl, rfl⟩ := same_ans HA.out hans0
    have HB3 := Lib.hid (HB2.out.trans (hb3.mono HB2.out.size))
    have H13 := Lib.hid (own_below H1.out hb3 (own_lt H1.out))
    clear hb3 hown0 hans0
    cases b
    · have hfs : fs = [] := by
        rcases HA.out with ⟨_, h, _⟩ | ⟨_, _, h⟩
        · cases h
        · exact h
      subst hfs
      obtain ⟨A1, c1, rfl⟩ := own_form H13.out
      go_wp2_with fail
      refine (HF.out _ HB3.out).mono ?_
      rintro e w4 ⟨rfl, hb4⟩
      have HB4 := Lib.hid (HB3.out.trans (hb4.mono HB3.out.size))
      clear hb4
      rw [itoa_m3]
      go_wp2_with fail
      go_ret
      exact HK.out _ HB4.out
    · have hok : OK s ∧ fs = split s.data.toList := by
        rcases HA.out with ⟨h1, _, h2⟩ | ⟨_, h, _⟩
        · exact ⟨h1, h2⟩
        · cases h
      obtain ⟨hok1, hok2⟩ := hok
      have hl24 : fs.length ≤ 24 := by rw [hok2]; exact hok1.2.2
      have hjs : (joined fs).length ≤ 1200 := by
        have := joined_size s.data.toList
        have h6 := hok1.1
        have e : s.data.toList.length = s.size := by simp
        rw [hok2]; omega
      have HOK := Lib.hid hok1
      have HSP := Lib.hid hok2
      clear hok1 hok2
      obtain ⟨A1, c1, rfl⟩ := own_form H13.out
      go_wp2_with fail
      go_loop [8, 9] (fun u8 u9 => JoRel fs u8 u9) (fun _ u9 => fs.length - (intOf u9).toNat)
      case atStart => exact ⟨0, Nat.zero_le _, rfl, by simp [joined]⟩
      case round =>
        obtain ⟨i, hi, rfl, rfl⟩ := hrel
        by_cases hlt : i < fs.length
        · obtain ⟨g, c', e1, _, hg⟩ := own_some H13.out (by omega)
          injection e1 with e1 _ e2
          subst e1 e2
          have hcell : w3.cell? ⟨g, i, none⟩ = some (.string ⟨(fs[i]).toArray⟩) := (H13.out.cellAt i (by omega)).trans (scells_at fs i hlt)
          have HJ := Lib.hid (jo_step hlt)
          have hj1 : (joined (fs.take i)).length ≤ 1200 := Nat.le_trans (joined_take fs i) hjs
          have hj2 : (fs[i]).length ≤ 1200 := Nat.le_trans (joined_part fs i hlt) hjs
          have hk0 : (0 : Int) ≤ (i : Int) := Int.natCast_nonneg _
          have hk1 : (i : Int) < (fs.length : Int) := by omega
          generalize joined (fs.take i) = l at *
          generalize hf : fs[i] = f at *
          clear hf
          go_wp2_with fail
          go_round
          case rel => exact HJ.out
          case measure => simp [intOf]; omega
        · obtain rfl : i = fs.length := by omega
          rw [List.take_of_length_le (Nat.le_refl _)]
          have hsz : (⟨(joined fs).toArray⟩ : ByteArray).size = (joined fs).length := by
            show (joined fs).toArray.size = _
            rw [List.size_toArray]
          have HZ := Lib.hid hsz
          have HSJ := Lib.hid (show (⟨(joined fs).toArray⟩ : ByteArray).size ≤ maxLen by unfold maxLen; omega)
          have HOJ := Lib.hid (show (joined fs).length ≤ 600 → OK ⟨(joined fs).toArray⟩ from fun h => by
            have := HSP.out; subst this; exact ok_joined HOK.out h)
          have HSS := Lib.hid (show split (⟨(joined fs).toArray⟩ : ByteArray).data.toList = fs from by
            have := HSP.out; subst this; exact split_joined s.data.toList)
          by_cases hlong : 600 < (joined fs).length
          · have hlongI : (600 : Int) < ((⟨(joined fs).toArray⟩ : ByteArray).size : Int) := by omega
            generalize (⟨(joined fs).toArray⟩ : ByteArray) = j at *
            clear hsz
            go_wp2_with fail
            refine (splI.split_any j _ HSJ.out).mono ?_
            rintro e w4 ⟨v2, fs2, b2, rfl, hans2, hown2, hb4⟩
            have HB4 := Lib.hid (HB3.out.trans (hb4.mono HB3.out.size))
            clear hans2 hown2 hb4
            go_wp2_with fail
            go_ret
            exact HK.out _ HB4.out
          · have hlongI : ((⟨(joined fs).toArray⟩ : ByteArray).size : Int) ≤ 600 := by omega
            have HOJ2 := Lib.hid (HOJ.out (by omega))
            clear HOJ
            generalize (⟨(joined fs).toArray⟩ : ByteArray) = j at *
            clear hsz
            go_wp2_with fail
            refine (splI.split_any j _ HSJ.out).mono ?_
            rintro e w4 ⟨v2, fs2, b2, rfl, hans2, hown2, hb4⟩
            rcases hans2 with ⟨_, rfl, h2⟩ | ⟨h, _, _⟩
            · rw [HSS.out] at h2
              subst h2
              have HB4 := Lib.hid (HB3.out.trans (hb4.mono HB3.out.size))
              have H14 := own_below H13.out hb4 (own_lt H13.out)
              rw [scells_map] at H14 hown2
              have K := Lib.hid (same_texts _ v2 _ _ fs2.length _ w4 (by simp) (by omega) H14 hown2)
              clear hown2 hb4 H14
              go_wp2_with fail
              refine K.out.mono ?_
              rintro e w5 ⟨rfl, d, rfl⟩
              have HB5 := Lib.hid (show Below w.heap.size w (w4.drewN d) from ⟨HB4.out.os, HB4.out.tape, HB4.out.output, HB4.out.size, HB4.out.block⟩)
              go_wp2_with fail
              go_ret
              exact HK.out _ HB5.out
            · exact absurd HOJ2.out h

theorem reads (os : Os) {H : Type} (enc : TypeId × Value → H) : ∃ places, DataW.whole enc Tryd.prog ((World.doorLaid Tryd.prog 400 os).forCall (fun _ _ => 0) ⟨#[], #[.slice none 0 0], []⟩).memory Tryd.f5.params.toList Rows.fnFieldsAgainSpec.vars false (#[.slice none 0 0] : Array Value).toList 8 = some ([.nil], [], places) :=
  ⟨[], by kernel_rfl⟩
theorem door_met (os : Os) : laidMetH Tryd.prog Rows.fnFieldsAgainRow.laid ((World.doorLaid Tryd.prog 400 os).forCall (fun _ _ => 0) ⟨#[], #[.slice none 0 0], []⟩).memory :=
  laidMetH_of_parts3 (fuel := 8) (laidMet_of_run' 8 (by kernel_rfl) (by kernel_rfl)) (by kernel_rfl) (by kernel_rfl)

set_option maxRecDepth 100000 in
theorem lifted (os : Os) (started : os.Started) (H : Type) (enc : TypeId × Value → H) (F : Stop.Interp) :
    ReturnsInHanded {} Tryd.checked os 5 .any ((OpenSpec.ofChange Rows.fnFieldsAgainSpec).preRow enc Tryd.prog Tryd.f5 Rows.fnFieldsAgainRow.domain false Rows.fnFieldsAgainRow.laid) (((OpenSpec.ofChange Rows.fnFieldsAgainSpec).at F).post enc Tryd.prog Tryd.f5 false true false false) := by
  obtain ⟨places, hx⟩ := reads os enc
  refine returnsInHanded_of_row (C := Tryd.checked) (s := OpenSpec.ofChange Rows.fnFieldsAgainSpec) own started (by kernel_rfl) Tryd.func5
    (witness_row_at (enc := enc) (C := Tryd.checked) false (World.doorLaid Tryd.prog 400 os) #[.slice none 0 0] rfl (by kernel_rfl) (by kernel_rfl) (by kernel_rfl)
      (OpenSpec.preRow_of_cond 8 hx (by kernel_rfl) (fun k hk => by cases hk) (by kernel_rfl) (door_met os))) ?_
  intro W base args ds gs before hval0 hW _ _ _ hL _ _
  have hval : ∀ (j : Nat) t v, Tryd.f5.params[j]? = some t → args[j]? = some v → Value.okWide Tryd.prog W .any base t v := hval0
  have hW' : DataW.Whole enc Tryd.prog Tryd.f5.params.toList Rows.fnFieldsAgainSpec.vars false W args.toList ds gs before := hW
  obtain ⟨p, q, hA0, hV, rfl, hfz, hnd⟩ := hW
  have hA : DataW.TrodAll enc Tryd.prog W 0 (fun _ => true) true Tryd.f5.params.toList args.toList ds p := hA0
  rw [Tryd.params5] at hA hval
  obtain ⟨v0, d0, rfl, rfl, h0⟩ := trodAll_one hA
  obtain ⟨rfl, rfl⟩ := trodVars_none hV
  clear hA0 hval0
  simp only [List.append_nil] at hW'
  have hlt : ∀ x ∈ p, x.block < W.heap.size := fun x hx => by simpa using hW'.lt x hx
  obtain ⟨A, n, c, rfl, hn, hb⟩ := open_bytes Tryd.underlying22 Tryd.underlying5 cells_u8 (hval 0 22 v0 rfl rfl) h0 hlt
  refine (walk A n c W hn hb (tab_of hL)).mono fun e W' ⟨he, hg⟩ => ?_
  subst he
  exact ⟨_, rfl, post_below (s := Rows.fnFieldsAgainSpec) (pa := _) (pv := []) hW' (fun _ _ _ => (trodAll_cons_mk (shut_bool Tryd.underlying4 _) trodAll_mk0)) (fun sp hsp => trodAll_mk1 (WideElems.Trod_stays laidOut (by kernel_rfl) (of_decide_eq_true (by kernel_rfl)) h0 (fun x hx => hg.same (hlt x hx)) hsp)) (fun _ _ => rfl) (by simp)
    hg (ok_one (by kernel_rfl) rfl (okWide_bool_mk Tryd.underlying4 _))⟩

theorem said : Rows.FnFieldsAgainSaid :=
  OpenClaim.holds_of_cond 5 Tryd.f5 rfl rfl rfl rfl rfl rfl rfl ⟨rfl, rfl, rfl, rfl, rfl⟩ rfl rfl rfl rfl rfl (by kernel_rfl) Tryd.func5 (by kernel_rfl)
    (of_decide_eq_true (by kernel_rfl)) (by unfold Func.isWrapper; first | (rw [if_pos (by decide +kernel)]; kernel_rfl) | (rw [if_neg (by decide +kernel)]; exact ⟨rfl, rfl⟩))
    (fun os started H enc _ F => by rw [OpenClaim.pre_eq_preRow]; exact lifted os started H enc F)

theorem plain (f : FuncId) (fn : Func) (hf : Tryd.pinned.checked.prog.funcNamed "loop.example/g00990/laws.FnFieldsAgain" = some f) (hfn : Tryd.pinned.checked.prog.funcs[f]? = some fn) :
    true = Tryd.pinned.checked.prog.looks [] ∧ ∀ (j : Nat) t, fn.params[j]? = some t → Tryd.pinned.checked.prog.wantsStandIn t = false := by
  obtain rfl : f = 5 := Option.some.inj ((show Tryd.prog.funcNamed "loop.example/g00990/laws.FnFieldsAgain" = some 5 by kernel_rfl).symm.trans hf) |>.symm
  obtain rfl : fn = Tryd.f5 := (Option.some.inj (Tryd.func5.symm.trans hfn)).symm
  refine ⟨by kernel_rfl, fun j t ht => ?_⟩
  rw [Tryd.params5] at ht
  obtain rfl : t = 22 := by simpa using Array.mem_of_getElem? ht
  exact (show Tryd.prog.wantsStandIn 22 = false by kernel_rfl)

theorem card : Rows.FnFieldsAgainCardSaid :=
  Claim7.holds_tied_plain_at .later [] _ _ _ _ said (fun _ h => by cases h) (by kernel_rfl) (fun _ h => by cases h) fnFieldsAgain_row_tie rfl ⟨rfl, rfl⟩ (by kernel_rfl) rfl plain (by kernel_rfl)
end Go.Proofs.YtijpbjnghkkdeaaDoor.fnFieldsAgain
