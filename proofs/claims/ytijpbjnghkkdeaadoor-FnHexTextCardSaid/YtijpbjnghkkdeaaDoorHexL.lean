/- For every code, the law of the hexadecimal texts answers true, and its argument reads as before; the library's tables hold what the program's text lays in them. -/
import Derived.Test.YtijpbjnghkkdeaaDoorCards
import Derived.Test.YtijpbjnghkkdeaaDoorTie
import Derived.Test.YtijpbjnghkkdeaaDoorFmtI
import Derived.Test.YtijpbjnghkkdeaaDoorHexI
import Derived.Test.YtijpbjnghkkdeaaDoorDecI
import Derived.Test.YtijpbjnghkkdeaaDoorHexR
import Derived.Test.YtijpbjnghkkdeaaDoorDrawH
import Derived.Test.YtijpbjnghkkdeaaDoorLawKit
import Derived.Deep.DeepHandedRow
import Derived.Lib.LaidTab
import Derived.Stop.LaidErr
import Derived.SevenTiedAt
import Derived.LaidMore
namespace Go.Proofs.YtijpbjnghkkdeaaDoor.fnHexText
open Go.ChangeShapes Go.WideShapes Go.ChangeAt Go.RowKit
open lawKit fmtI hexP decP hexR draw fmtP
set_option linter.unusedVariables false

theorem tab_of {W : World} (h : laidMetH Tryd.prog Rows.fnHexTextRow.laid W) : Tab W := by
  rw [MakeChecks.laidMetH_plain _ _ _ (by kernel_rfl)] at h
  exact Lib.tabIs_of_head (rest := []) gTab gTabType Tryd.underlying78 Tryd.underlying65 cellsU64 cellsArr (laidMet.tail (laidMet.tail h))

theorem impl_long (s : ByteArray) (w : World) (hs : 20000 < s.size) (hs' : s.size ≤ 65536) :
    Calls Tryd.prog 10 #[.string s] w fun e w' => e = .returned (.tuple #[.string ⟨#[]⟩, .bool false]) ∧ w = w' := by
  go_enter Tryd.func10, Tryd.ntmps10
  go_wp2
  go_ret2
  exact ⟨rfl, rfl⟩

theorem hex_size (s : ByteArray) : (⟨(hexOf s.data.toList).toArray⟩ : ByteArray).size = 2 * s.size := by
  show (hexOf s.data.toList).toArray.size = 2 * s.size
  rw [List.size_toArray, hexOf_length]
  simp
theorem hex_back (s : ByteArray) : (⟨(decI (⟨(hexOf s.data.toList).toArray⟩ : ByteArray).data.toList ((⟨(hexOf s.data.toList).toArray⟩ : ByteArray).size / 2)).toArray⟩ : ByteArray) = s := by
  rw [hex_size]
  have e1 : 2 * s.size / 2 = s.data.toList.length := by simp
  rw [e1]
  show (⟨(decI (hexOf s.data.toList) s.data.toList.length).toArray⟩ : ByteArray) = s
  rw [dec_hexOf]

theorem itoa_ten : Lib.itoa 10 = [49, 48] := by
  rw [itoa_pos 10 (by omega)]
  show dg 10 = _
  rw [dg_step 10 (by omega), dg_step (10 / 10) (by omega)]
  decide

/-- The law's answer. -/
def Yes (w : World) (e : Ending) (w' : World) : Prop := e = .returned (.bool true) ∧ Below w.heap.size w w'
theorem yes_mk {w w' : World} (h : Below w.heap.size w w') : Yes w (.returned (.bool true)) w' := ⟨rfl, h⟩

theorem walk (A : Option Addr) (n c : Nat) (w : World) (hn : n ≤ maxLen) (hb : BytesIn w w.heap.size A n) (ht : Tab w) :
    Calls Tryd.prog 3 #[.slice A n c] w (Yes w) := by
  have HK := @Lib.hid _ (fun w' h => @yes_mk w w' h)
  have HR := Lib.hid (Below.refl w.heap.size w)
  have HN := Lib.hid hn
  have HD := Lib.hid (drawEncodeHex_any A n c w hn hb)
  have HF := Lib.hid (fun W (h : Below w.heap.size w W) => fmtI.format_any 10 W (by omega) (by omega) (ht.below h))
  unfold maxLen at hn
  clear hb ht
  by_cases hbig : 1048576 < n
  · go_enter Tryd.func3, Tryd.ntmps3
    go_wp2_with fail
    refine (big_yes A n c w HN.out hbig).mono ?_
    rintro e w' ⟨rfl, rfl⟩
    go_wp2_with fail
    go_ret
    exact HK.out _ HR.out
  · go_enter Tryd.func3, Tryd.ntmps3
    go_wp2_with fail
    refine (big_no A n c w HN.out (by omega)).mono ?_
    rintro e w' ⟨rfl, rfl⟩
    go_wp2_with fail
    refine HD.out.mono ?_
    rintro e w1 ⟨s, hs, rfl, hb1⟩
    by_cases hl : 20000 < s.size
    · go_wp2_with fail
      refine (impl_long s _ hl hs).mono ?_
      rintro e w' ⟨rfl, rfl⟩
      go_wp2_with fail
      refine (HF.out _ hb1).mono ?_
      rintro e w2 ⟨rfl, hb2'⟩
      have hb2 : Below w.heap.size w w2 := hb1.trans (hb2'.mono hb1.size)
      clear hb1 hb2'
      rw [itoa_ten]
      go_wp2_with fail
      go_ret
      exact HK.out _ hb2
    · have hs2 : s.size ≤ 20000 := by omega
      go_wp2_with fail
      refine (hexI.encode_any s _ hs2).mono ?_
      rintro e w2 ⟨rfl, hb2'⟩
      have hb2 : Below w.heap.size w w2 := hb1.trans (hb2'.mono hb1.size)
      clear hb1 hb2'
      have HZ := Lib.hid (hex_size s)
      have HE := Lib.hid (hex_back s)
      have hgood : AllGood ⟨(hexOf s.data.toList).toArray⟩ := hex_good s.data.toList
      have HG := Lib.hid hgood
      generalize (⟨(hexOf s.data.toList).toArray⟩ : ByteArray) = h at *
      clear hgood
      go_wp2_with fail
      refine (decI1.decode_any h _ (by have := HZ.out; omega) (by have := HZ.out; omega)).mono ?_
      rintro e w3 ⟨hd, hb3'⟩
      have hb3 : Below w.heap.size w w3 := hb2.trans (hb3'.mono hb2.size)
      clear hb2 hb3'
      rcases hd with ⟨hg, rfl⟩ | ⟨hg, rfl⟩
      · rw [HE.out]
        have hq : (h.size : Int) = 2 * (s.size : Int) := by have := HZ.out; omega
        have hqq : ((h.size : Int) == 2 * (s.size : Int)) = true := by simpa using hq
        clear hg hq
        go_wp2_with fail
        go_ret
        exact HK.out _ hb3
      · exact absurd HG.out hg

theorem reads (os : Os) {H : Type} (enc : TypeId × Value → H) : ∃ places, DataW.whole enc Tryd.prog ((World.doorLaid Tryd.prog 400 os).forCall (fun _ _ => 0) ⟨#[], #[.slice none 0 0], []⟩).memory Tryd.f3.params.toList Rows.fnHexTextSpec.vars false (#[.slice none 0 0] : Array Value).toList 8 = some ([.nil], [], places) :=
  ⟨[], by kernel_rfl⟩
theorem door_met (os : Os) : laidMetH Tryd.prog Rows.fnHexTextRow.laid ((World.doorLaid Tryd.prog 400 os).forCall (fun _ _ => 0) ⟨#[], #[.slice none 0 0], []⟩).memory :=
  laidMetH_of_parts3 (fuel := 8) (laidMet_of_run' 8 (by kernel_rfl) (by kernel_rfl)) (by kernel_rfl) (by kernel_rfl)

set_option maxRecDepth 100000 in
theorem lifted (os : Os) (started : os.Started) (H : Type) (enc : TypeId × Value → H) (F : Stop.Interp) :
    ReturnsInHanded {} Tryd.checked os 3 .any ((OpenSpec.ofChange Rows.fnHexTextSpec).preRow enc Tryd.prog Tryd.f3 Rows.fnHexTextRow.domain false Rows.fnHexTextRow.laid) (((OpenSpec.ofChange Rows.fnHexTextSpec).at F).post enc Tryd.prog Tryd.f3 false true false false) := by
  obtain ⟨places, hx⟩ := reads os enc
  refine returnsInHanded_of_row (C := Tryd.checked) (s := OpenSpec.ofChange Rows.fnHexTextSpec) own started (by kernel_rfl) Tryd.func3
    (witness_row_at (enc := enc) (C := Tryd.checked) false (World.doorLaid Tryd.prog 400 os) #[.slice none 0 0] rfl (by kernel_rfl) (by kernel_rfl) (by kernel_rfl)
      (OpenSpec.preRow_of_cond 8 hx (by kernel_rfl) (fun k hk => by cases hk) (by kernel_rfl) (door_met os))) ?_
  intro W base args ds gs before hval0 hW _ _ _ hL _ _
  have hval : ∀ (j : Nat) t v, Tryd.f3.params[j]? = some t → args[j]? = some v → Value.okWide Tryd.prog W .any base t v := hval0
  have hW' : DataW.Whole enc Tryd.prog Tryd.f3.params.toList Rows.fnHexTextSpec.vars false W args.toList ds gs before := hW
  obtain ⟨p, q, hA0, hV, rfl, hfz, hnd⟩ := hW
  have hA : DataW.TrodAll enc Tryd.prog W 0 (fun _ => true) true Tryd.f3.params.toList args.toList ds p := hA0
  rw [Tryd.params3] at hA hval
  obtain ⟨v0, d0, rfl, rfl, h0⟩ := trodAll_one hA
  obtain ⟨rfl, rfl⟩ := trodVars_none hV
  clear hA0 hval0
  simp only [List.append_nil] at hW'
  have hlt : ∀ x ∈ p, x.block < W.heap.size := fun x hx => by simpa using hW'.lt x hx
  obtain ⟨A, n, c, rfl, hn, hb⟩ := open_bytes Tryd.underlying22 Tryd.underlying5 cells_u8 (hval 0 22 v0 rfl rfl) h0 hlt
  refine (walk A n c W hn hb (tab_of hL)).mono fun e W' ⟨he, hg⟩ => ?_
  subst he
  exact ⟨_, rfl, post_below (s := Rows.fnHexTextSpec) (pa := _) (pv := []) hW' (fun _ _ _ => (trodAll_cons_mk (shut_bool Tryd.underlying4 _) trodAll_mk0)) (fun sp hsp => trodAll_mk1 (WideElems.Trod_stays laidOut (by kernel_rfl) (of_decide_eq_true (by kernel_rfl)) h0 (fun x hx => hg.same (hlt x hx)) hsp)) (fun _ _ => rfl) (by simp)
    hg (ok_one (by kernel_rfl) rfl (okWide_bool_mk Tryd.underlying4 _))⟩

theorem said : Rows.FnHexTextSaid :=
  OpenClaim.holds_of_cond 3 Tryd.f3 rfl rfl rfl rfl rfl rfl rfl ⟨rfl, rfl, rfl, rfl, rfl⟩ rfl rfl rfl rfl rfl (by kernel_rfl) Tryd.func3 (by kernel_rfl)
    (of_decide_eq_true (by kernel_rfl)) (by unfold Func.isWrapper; first | (rw [if_pos (by decide +kernel)]; kernel_rfl) | (rw [if_neg (by decide +kernel)]; exact ⟨rfl, rfl⟩))
    (fun os started H enc _ F => by rw [OpenClaim.pre_eq_preRow]; exact lifted os started H enc F)

theorem plain (f : FuncId) (fn : Func) (hf : Tryd.pinned.checked.prog.funcNamed "loop.example/g00990/laws.FnHexText" = some f) (hfn : Tryd.pinned.checked.prog.funcs[f]? = some fn) :
    true = Tryd.pinned.checked.prog.looks [] ∧ ∀ (j : Nat) t, fn.params[j]? = some t → Tryd.pinned.checked.prog.wantsStandIn t = false := by
  obtain rfl : f = 3 := Option.some.inj ((show Tryd.prog.funcNamed "loop.example/g00990/laws.FnHexText" = some 3 by kernel_rfl).symm.trans hf) |>.symm
  obtain rfl : fn = Tryd.f3 := (Option.some.inj (Tryd.func3.symm.trans hfn)).symm
  refine ⟨by kernel_rfl, fun j t ht => ?_⟩
  rw [Tryd.params3] at ht
  obtain rfl : t = 22 := by simpa using Array.mem_of_getElem? ht
  exact (show Tryd.prog.wantsStandIn 22 = false by kernel_rfl)

theorem card : Rows.FnHexTextCardSaid :=
  Claim7.holds_tied_plain_at .later [] _ _ _ _ said (fun _ h => by cases h) (by kernel_rfl) (fun _ h => by cases h) fnHexText_row_tie rfl ⟨rfl, rfl⟩ (by kernel_rfl) rfl plain (by kernel_rfl)
end Go.Proofs.YtijpbjnghkkdeaaDoor.fnHexText
