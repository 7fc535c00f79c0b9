/- For every code, the law of the numbers answers true, and its argument reads as before; the library's tables and errors hold what the program's text lays in them. -/
import Derived.Test.YtijpbjnghkkdeaaDoorCards
import Derived.Test.YtijpbjnghkkdeaaDoorTie
import Derived.Test.YtijpbjnghkkdeaaDoorPuI
import Derived.Test.YtijpbjnghkkdeaaDoorDrawN
import Derived.Test.YtijpbjnghkkdeaaDoorLawKit
import Derived.Deep.DeepWitnessRowRef
import Derived.Lib.LaidTab
import Derived.Stop.LaidErr
import Derived.SevenTiedAt
import Derived.LaidMore
namespace Go.Proofs.YtijpbjnghkkdeaaDoor.fnNumbers
open Go.ChangeShapes Go.WideShapes Go.ChangeAt Go.RowKit
open lawKit fmtI puP puI draw fmtP
set_option linter.unusedVariables false

theorem gSyn : Tryd.prog.globalNamed "strconv.ErrSyntax" = some 1 := by kernel_rfl
theorem gSynType : (Tryd.prog.globals[1]?).map (·.type) = some 47 := by kernel_rfl
theorem gRng : Tryd.prog.globalNamed "strconv.ErrRange" = some 2 := by kernel_rfl
theorem gRngType : (Tryd.prog.globals[2]?).map (·.type) = some 47 := by kernel_rfl
theorem star : "*" ++ "errors.errorString" = "*errors.errorString" := by decide
theorem errRow (u : TypeId) (h : Tryd.prog.typeName? 3 u = some "*errors.errorString") : u = 84 :=
  typeName_ptr_named (nm := "errors.errorString") (by rw [star]; kernel_rfl) (by kernel_rfl) (by decide) u (by rw [star]; exact h)
theorem cellsErr : Tryd.prog.cellsOf 86 = 1 := by kernel_rfl
theorem cellsStr : Tryd.prog.cellsOf 9 = 1 := by kernel_rfl

theorem met {W : World} (h : laidMetH Tryd.prog Rows.fnNumbersRow.laid W) : laidMet Tryd.prog Rows.fnNumbersRow.laid W := by
  rw [MakeChecks.laidMetH_plain _ _ _ (by kernel_rfl)] at h
  exact h
theorem tab_of {W : World} (h : laidMetH Tryd.prog Rows.fnNumbersRow.laid W) : Tab W :=
  Lib.tabIs_of_head (rest := [("strconv.ErrRange", Rows.laid_strconv_ErrRange), ("strconv.ErrSyntax", Rows.laid_strconv_ErrSyntax)]) gTab gTabType Tryd.underlying78 Tryd.underlying65 cellsU64 cellsArr (laidMet.tail (laidMet.tail (met h)))
theorem rng_of {W : World} (h : laidMetH Tryd.prog Rows.fnNumbersRow.laid W) : Err "strconv.ErrRange" W := by
  obtain ⟨a0, sa, hv, _, _, _⟩ := laid_sentinel (laidMet.tail (laidMet.tail (laidMet.tail (met h)))) gRng gRngType Tryd.underlying47 errRow Tryd.underlying84 Tryd.underlying86 rfl rfl Tryd.underlying9 cellsErr cellsStr
  exact ⟨_, _, hv⟩
theorem syn_of {W : World} (h : laidMetH Tryd.prog Rows.fnNumbersRow.laid W) : Err "strconv.ErrSyntax" W := by
  obtain ⟨a0, sa, hv, _, _, _⟩ := laid_sentinel (laidMet.tail (laidMet.tail (laidMet.tail (laidMet.tail (met h))))) gSyn gSynType Tryd.underlying47 errRow Tryd.underlying84 Tryd.underlying86 rfl rfl Tryd.underlying9 cellsErr cellsStr
  exact ⟨_, _, hv⟩

theorem itoa_inj_no {n : Int} (h1 : -9223372036854775808 ≤ n) (h2 : n ≤ 9223372036854775807) (h : ¬ (0 ≤ n ∧ n ≤ 1000000000)) : ∀ v, ¬ IsNum (Lib.itoa n) v := fun v hv => by
  by_cases hn : n < 0
  · have e := hv.dec
    rw [itoa_neg n hn] at e
    simp [Lib.decFrom, Lib.digitVal] at e
  · have e := hv.dec
    rw [dec_itoa n (by omega)] at e
    injection e with e
    have := hv.1; have := hv.2.1; omega
theorem itoa_size (n : Int) (h1 : -9223372036854775808 ≤ n) (h2 : n ≤ 9223372036854775807) : (⟨(Lib.itoa n).toArray⟩ : ByteArray).size ≤ 281474976710656 := by
  have e : (⟨(Lib.itoa n).toArray⟩ : ByteArray).size = (Lib.itoa n).length := by simp [ByteArray.size]
  rw [e]
  have := dg_len19 n h1 h2
  by_cases h0 : n = 0
  · subst h0; rw [itoa_zero]; simp
  · by_cases hn : n < 0
    · rw [itoa_neg n hn]; simp; omega
    · rw [itoa_pos n (by omega)]; omega

/-- The law's answer. -/
def Yes (w : World) (e : Ending) (w' : World) : Prop := e = .returned (.bool true) ∧ Below w.heap.size w w'
theorem yes_mk {w w' : World} (h : Below w.heap.size w w') : Yes w (.returned (.bool true)) w' := ⟨rfl, h⟩

theorem walk (A : Option Addr) (n c : Nat) (w : World) (hn : n ≤ maxLen) (hb : BytesIn w w.heap.size A n) (ht : Tab w) (hsyn : Err "strconv.ErrSyntax" w) (hrng : Err "strconv.ErrRange" w) :
    Calls Tryd.prog 4 #[.slice A n c] w (Yes w) := by
  have HK := @Lib.hid _ (fun w' h => @yes_mk w w' h)
  have HR := Lib.hid (Below.refl w.heap.size w)
  have HN := Lib.hid hn
  have HD := Lib.hid (drawFormatInt_any A n c w hn hb)
  have HP := Lib.hid (fun s W hs (h : Below w.heap.size w W) => puI.parse_any s W hs (ht.below h) (hsyn.below h) (hrng.below h))
  have HF := Lib.hid (fun v W h1 h2 (h : Below w.heap.size w W) => fmtI.format_any v W h1 h2 (ht.below h))
  unfold maxLen at hn
  clear hb ht hsyn hrng
  by_cases hbig : 1048576 < n
  · go_enter Tryd.func4, Tryd.ntmps4
    go_wp2_with fail
    refine (big_yes A n c w HN.out hbig).mono ?_
    rintro e w' ⟨rfl, rfl⟩
    go_wp2_with fail
    go_ret
    exact HK.out _ HR.out
  · go_enter Tryd.func4, Tryd.ntmps4
    go_wp2_with fail
    refine (big_no A n c w HN.out (by omega)).mono ?_
    rintro e w' ⟨rfl, rfl⟩
    go_wp2_with fail
    refine HD.out.mono ?_
    rintro e w1 ⟨x, hx, rfl, hb1⟩
    obtain ⟨hx1, hx2⟩ := hx
    have HE := Lib.hid (itoa_ne x)
    have hne : (Lib.itoa x == []) = false := by rw [beq_eq_false_iff_ne]; exact HE.out
    have hne2 : (Lib.itoa x).isEmpty = false := by
      cases h : Lib.itoa x with
      | nil => exact absurd h HE.out
      | cons a b => rfl
    have HS := Lib.hid (itoa_size x hx1 hx2)
    go_wp2_with fail
    refine (HF.out _ _ hx1 hx2 hb1).mono ?_
    rintro e w2 ⟨rfl, hb2'⟩
    have hb2 : Below w.heap.size w w2 := hb1.trans (hb2'.mono hb1.size)
    clear hb1 hb2'
    go_wp2_with fail
    refine (HP.out _ _ HS.out hb2).mono ?_
    rintro e w3 ⟨hd, hb3'⟩
    have hb3 : Below w.heap.size w w3 := hb2.trans (hb3'.mono hb2.size)
    clear hb2 hb3'
    by_cases hin : 0 ≤ x ∧ x ≤ 1000000000
    · obtain ⟨hi1, hi2⟩ := hin
      rcases hd with ⟨v, hv, rfl⟩ | ⟨hno, rfl⟩
      · have hv' : IsNum (Lib.itoa x) v := hv
        obtain rfl : v = x := hv'.same ⟨hi1, hi2, rfl⟩
        clear hv hv'
        have hvv : (v == v) = true := by simp
        go_wp2_with fail
        go_ret
        exact HK.out _ hb3
      · exact absurd (⟨hi1, hi2, rfl⟩ : IsNum (Lib.itoa x) x) (hno x)
    · have HX := Lib.hid (itoa_inj_no hx1 hx2 hin)
      rcases hd with ⟨v, hv, rfl⟩ | ⟨hno, rfl⟩
      · exact absurd hv (HX.out v)
      · clear hno
        by_cases hneg : x < 0
        · clear hin
          go_wp2_with fail
          go_ret
          exact HK.out _ hb3
        · have hbig2 : 1000000000 < x := by omega
          clear hin
          go_wp2_with fail
          go_ret
          exact HK.out _ hb3

theorem reads (os : Os) {H : Type} (enc : TypeId × Value → H) : ∃ places, DataW.whole enc Tryd.prog ((World.doorLaid Tryd.prog 400 os).forCall (fun _ _ => 0) ⟨#[], #[.slice none 0 0], []⟩).memory Tryd.f4.params.toList Rows.fnNumbersSpec.vars false (#[.slice none 0 0] : Array Value).toList 8 = some ([.nil], [], places) :=
  ⟨[], by kernel_rfl⟩
theorem door_met (os : Os) : laidMetH Tryd.prog Rows.fnNumbersRow.laid ((World.doorLaid Tryd.prog 400 os).forCall (fun _ _ => 0) ⟨#[], #[.slice none 0 0], []⟩).memory :=
  laidMetH_of_parts3 (fuel := 8) (laidMet_of_run' 8 (by kernel_rfl) (by kernel_rfl)) (by kernel_rfl) (by kernel_rfl)

set_option maxRecDepth 100000 in
theorem lifted (os : Os) (started : os.Started) (H : Type) (enc : TypeId × Value → H) (F : Stop.Interp) :
    ReturnsInHanded {} Tryd.checked os 4 .any ((OpenSpec.ofChange Rows.fnNumbersSpec).preRow enc Tryd.prog Tryd.f4 Rows.fnNumbersRow.domain false Rows.fnNumbersRow.laid) (((OpenSpec.ofChange Rows.fnNumbersSpec).at F).post enc Tryd.prog Tryd.f4 false true false false) := by
  obtain ⟨places, hx⟩ := reads os enc
  refine returnsInHanded_of_row (C := Tryd.checked) (s := OpenSpec.ofChange Rows.fnNumbersSpec) own started (by kernel_rfl) Tryd.func4
    (witness_row_atRef (enc := enc) (C := Tryd.checked) false (World.doorLaid Tryd.prog 400 os) #[.slice none 0 0] rfl (by kernel_rfl) (by kernel_rfl) (by kernel_rfl)
      (OpenSpec.preRow_of_cond 8 hx (by kernel_rfl) (fun k hk => by cases hk) (by kernel_rfl) (door_met os))) ?_
  intro W base args ds gs before hval0 hW _ _ _ hL _ _
  have hval : ∀ (j : Nat) t v, Tryd.f4.params[j]? = some t → args[j]? = some v → Value.okWide Tryd.prog W .any base t v := hval0
  have hW' : DataW.Whole enc Tryd.prog Tryd.f4.params.toList Rows.fnNumbersSpec.vars false W args.toList ds gs before := hW
  obtain ⟨p, q, hA0, hV, rfl, hfz, hnd⟩ := hW
  have hA : DataW.TrodAll enc Tryd.prog W 0 (fun _ => true) true Tryd.f4.params.toList args.toList ds p := hA0
  rw [Tryd.params4] at hA hval
  obtain ⟨v0, d0, rfl, rfl, h0⟩ := trodAll_one hA
  obtain ⟨rfl, rfl⟩ := trodVars_none hV
  clear hA0 hval0
  simp only [List.append_nil] at hW'
  have hlt : ∀ x ∈ p, x.block < W.heap.size := fun x hx => by simpa using hW'.lt x hx
  obtain ⟨A, n, c, rfl, hn, hb⟩ := open_bytes Tryd.underlying22 Tryd.underlying5 cells_u8 (hval 0 22 v0 rfl rfl) h0 hlt
  refine (walk A n c W hn hb (tab_of hL) (syn_of hL) (rng_of hL)).mono fun e W' ⟨he, hg⟩ => ?_
  subst he
  exact ⟨_, rfl, post_below (s := Rows.fnNumbersSpec) (pa := _) (pv := []) hW' (fun _ _ _ => (trodAll_cons_mk (shut_bool Tryd.underlying4 _) trodAll_mk0)) (fun sp hsp => trodAll_mk1 (WideElems.Trod_stays laidOut (by kernel_rfl) (of_decide_eq_true (by kernel_rfl)) h0 (fun x hx => hg.same (hlt x hx)) hsp)) (fun _ _ => rfl) (by simp)
    hg (ok_one (by kernel_rfl) rfl (okWide_bool_mk Tryd.underlying4 _))⟩

theorem said : Rows.FnNumbersSaid :=
  OpenClaim.holds_of_cond 4 Tryd.f4 rfl rfl rfl rfl rfl rfl rfl ⟨rfl, rfl, rfl, rfl, rfl⟩ rfl rfl rfl rfl rfl (by kernel_rfl) Tryd.func4 (by kernel_rfl)
    (of_decide_eq_true (by kernel_rfl)) (by unfold Func.isWrapper; first | (rw [if_pos (by decide +kernel)]; kernel_rfl) | (rw [if_neg (by decide +kernel)]; exact ⟨rfl, rfl⟩))
    (fun os started H enc _ F => by rw [OpenClaim.pre_eq_preRow]; exact lifted os started H enc F)

theorem plain (f : FuncId) (fn : Func) (hf : Tryd.pinned.checked.prog.funcNamed "loop.example/g00990/laws.FnNumbers" = some f) (hfn : Tryd.pinned.checked.prog.funcs[f]? = some fn) :
    true = Tryd.pinned.checked.prog.looks [] ∧ ∀ (j : Nat) t, fn.params[j]? = some t → Tryd.pinned.checked.prog.wantsStandIn t = false := by
  obtain rfl : f = 4 := Option.some.inj ((show Tryd.prog.funcNamed "loop.example/g00990/laws.FnNumbers" = some 4 by kernel_rfl).symm.trans hf) |>.symm
  obtain rfl : fn = Tryd.f4 := (Option.some.inj (Tryd.func4.symm.trans hfn)).symm
  refine ⟨by kernel_rfl, fun j t ht => ?_⟩
  rw [Tryd.params4] at ht
  obtain rfl : t = 22 := by simpa using Array.mem_of_getElem? ht
  exact (show Tryd.prog.wantsStandIn 22 = false by kernel_rfl)

theorem card : Rows.FnNumbersCardSaid :=
  Claim7.holds_tied_plain_at .later [] _ _ _ _ said (fun _ h => by cases h) (by kernel_rfl) (fun _ h => by cases h) fnNumbers_row_tie rfl ⟨rfl, rfl⟩ (by kernel_rfl) rfl plain (by kernel_rfl)
end Go.Proofs.YtijpbjnghkkdeaaDoor.fnNumbers
