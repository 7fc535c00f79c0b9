/- ParseMaze: for every argument the program's answer is the model's, and the arguments read as before. -/
import Derived.Deep.DeepHandedRow
import Derived.Deep.DeepWitnessRowRef
import Derived.Lib.LaidTab
import Derived.Stop.LaidErr
import Derived.SevenTiedAt
import Derived.LaidMore
import Derived.Test.YtmmdngfhfceefaaDoorCards
import Derived.Test.YtmmdngfhfceefaaDoorTie
import Derived.Test.YtmmdngfhfceefaaDoorTxtM
import Derived.Test.YtmmdngfhfceefaaDoorTxtI
import Derived.Test.YtmmdngfhfceefaaDoorListK
import Derived.Test.YtmmdngfhfceefaaDoorBase
import Derived.Test.YtmmdngfhfceefaaDoorMzB
namespace Go.Proofs.YtmmdngfhfceefaaDoor.fnExactParseMaze
open Go.ChangeShapes Go.WideShapes Go.ChangeAt Go.RowKit
open gridC gridR mazeP mazeC mazeM mazeR linP linR listT gridE txtP fmtI puI intsP intK intA listK lawKit reachD draw
set_option linter.unusedVariables false

theorem gSyn : Tryd.prog.globalNamed "strconv.ErrSyntax" = some 0 := by kernel_rfl
theorem gSynType : (Tryd.prog.globals[0]?).map (·.type) = some 54 := by kernel_rfl
theorem gRng : Tryd.prog.globalNamed "strconv.ErrRange" = some 1 := by kernel_rfl
theorem gRngType : (Tryd.prog.globals[1]?).map (·.type) = some 54 := by kernel_rfl
theorem star : "*" ++ "errors.errorString" = "*errors.errorString" := by decide
theorem errRow (u : TypeId) (h : Tryd.prog.typeName? 3 u = some "*errors.errorString") : u = 118 :=
  typeName_ptr_named (nm := "errors.errorString") (by rw [star]; kernel_rfl) (by kernel_rfl) (by decide) u (by rw [star]; exact h)
theorem cellsErr : Tryd.prog.cellsOf 120 = 1 := by kernel_rfl
theorem cellsStr : Tryd.prog.cellsOf 9 = 1 := by kernel_rfl

theorem met {W : World} (h : laidMetH Tryd.prog Rows.fnExactParseMazeRow.laid W) : laidMet Tryd.prog Rows.fnExactParseMazeRow.laid W := by
  rw [MakeChecks.laidMetH_plain _ _ _ (by kernel_rfl)] at h
  exact h
theorem tab_of {W : World} (h : laidMetH Tryd.prog Rows.fnExactParseMazeRow.laid W) : Tab W :=
  Lib.tabIs_of_head (rest := [("strconv.ErrRange", Rows.laid_strconv_ErrRange), ("strconv.ErrSyntax", Rows.laid_strconv_ErrSyntax)]) gTab gTabType Tryd.underlying121 Tryd.underlying88 cellsU64 cellsArr (laidMet.tail (laidMet.tail (met h)))
theorem rng_of {W : World} (h : laidMetH Tryd.prog Rows.fnExactParseMazeRow.laid W) : Err "strconv.ErrRange" W := by
  obtain ⟨a0, sa, hv, _, _, _⟩ := laid_sentinel (laidMet.tail (laidMet.tail (laidMet.tail (met h)))) gRng gRngType Tryd.underlying54 errRow Tryd.underlying118 Tryd.underlying120 rfl rfl Tryd.underlying9 cellsErr cellsStr
  exact ⟨_, _, hv⟩
theorem syn_of {W : World} (h : laidMetH Tryd.prog Rows.fnExactParseMazeRow.laid W) : Err "strconv.ErrSyntax" W := by
  obtain ⟨a0, sa, hv, _, _, _⟩ := laid_sentinel (laidMet.tail (laidMet.tail (laidMet.tail (laidMet.tail (met h))))) gSyn gSynType Tryd.underlying54 errRow Tryd.underlying118 Tryd.underlying120 rfl rfl Tryd.underlying9 cellsErr cellsStr
  exact ⟨_, _, hv⟩

/-- The law's answer. -/
def Yes (w : World) (e : Ending) (w' : World) : Prop := e = .returned (.bool true) ∧ Below w.heap.size w w'
theorem yes_mk {w w' : World} (h : Below w.heap.size w w') : Yes w (.returned (.bool true)) w' := ⟨rfl, h⟩

set_option maxRecDepth 100000 in
set_option maxHeartbeats 2000000 in
theorem walk_at (s0 : ByteArray) (r0x r0y r0z : Int) (r1 : Bool) (W : World) (hm0 : s0.size ≤ 1048576)
    (HS : Hid (∀  X, Calls Tryd.prog 17 #[.string s0] X (MzB r0x r0y r0z r1 X)))
    (HI : Hid (∀  X, Below W.heap.size W X → Calls Tryd.prog 10 #[.string s0] X (MzB r0x r0y r0z r1 X))) :
    Calls Tryd.prog 5 #[.string s0] W (Yes W) := by
  have HK := @Lib.hid _ (fun w' b => @yes_mk W w' b)
  have hb0 : decide ((1048576 : Int) < (s0.size : Int)) = false := by simp; omega
  have er1 : (r1 != r1) = false := by cases r1 <;> rfl
  go_enter Tryd.func5, Tryd.ntmps5
  have hbl := Lib.hid (Below.refl W.heap.size W)
  go_wp2_with fail
  refine (HS.out _).mono ?_
  rintro e w1 ⟨rfl, hb⟩
  replace hbl := Lib.hid (below_call hbl.out hb)
  clear hb
  have hb := below_box w1 (.cells #[.int .i64 r0x, .int .i64 r0y, .int .i64 r0z] 27)
  replace hbl := Lib.hid (below_call hbl.out hb)
  clear hb
  have hr_w0 := Lib.hid (row3_new r0x r0y r0z w1 27)
  obtain ⟨⟨dw00, dw01, dw02⟩, -⟩ := row3_cells hr_w0.out
  go_wp2_with fail
  generalize w1.alloc (.cells #[.int .i64 r0x, .int .i64 r0y, .int .i64 r0z] 27) = X1 at *
  generalize w1.heap.size = B1 at *
  refine (HI.out _ hbl.out).mono ?_
  rintro e w2 ⟨rfl, hb⟩
  clear dw00 dw01 dw02
  replace hbl := Lib.hid (below_call hbl.out hb)
  replace hr_w0 := Lib.hid (Row3.call hr_w0.out hb)
  clear hb
  have hb := below_box w2 (.cells #[.int .i64 r0x, .int .i64 r0y, .int .i64 r0z] 27)
  replace hbl := Lib.hid (below_call hbl.out hb)
  replace hr_w0 := Lib.hid (Row3.call hr_w0.out hb)
  clear hb
  have hr_g0 := Lib.hid (row3_new r0x r0y r0z w2 27)
  obtain ⟨⟨dw00, dw01, dw02⟩, -⟩ := row3_cells hr_w0.out
  obtain ⟨⟨dg00, dg01, dg02⟩, -⟩ := row3_cells hr_g0.out
  go_wp2_with fail
  generalize w2.alloc (.cells #[.int .i64 r0x, .int .i64 r0y, .int .i64 r0z] 27) = X2 at *
  generalize w2.heap.size = B2 at *
  refine (mazeR.eqMaze_same r0x r0y r0z _).mono ?_
  rintro e w3 ⟨rfl, hb⟩
  clear dw00 dw01 dw02
  clear dg00 dg01 dg02
  replace hbl := Lib.hid (below_call hbl.out hb)
  replace hr_w0 := Lib.hid (Row3.call hr_w0.out hb)
  replace hr_g0 := Lib.hid (Row3.call hr_g0.out hb)
  clear hb
  go_wp2_with fail
  go_ret
  exact HK.out _ hbl.out

set_option maxRecDepth 100000 in
theorem walk (s0 : ByteArray) (W : World) (hs0 : s0.size ≤ maxLen) (ht : Tab W) (hsyn : Err "strconv.ErrSyntax" W) (hrng : Err "strconv.ErrRange" W) :
    Calls Tryd.prog 5 #[.string s0] W (Yes W) := by
  by_cases hbig : 1048576 < s0.size
  · have hb1 : decide ((1048576 : Int) < (s0.size : Int)) = true := by simp; omega
    have HB := Lib.hid below_box
    have HR := Lib.hid (Below.refl W.heap.size W)
    have HK := @Lib.hid _ (fun w' b => @yes_mk W w' b)
    clear ht hsyn hrng
    go_enter Tryd.func5, Tryd.ntmps5
    go_wp2_with fail
    go_ret
    exact HK.out _ HR.out
  · have hm0 : s0.size ≤ 1048576 := by omega
    exact walk_at s0 (pmX s0.data.toList) (pmY s0.data.toList) (pmZ s0.data.toList) (pmB s0.data.toList) W hm0
      (Lib.hid (fun  X => txtM.parseMaze_any s0 X hm0 ))
      (Lib.hid (fun  X hB => txtI.parseMaze_any s0 X hm0 (ht.below hB) (hsyn.below hB) (hrng.below hB)))

theorem reads (os : Os) {H : Type} (enc : TypeId × Value → H) : ∃ places, DataW.whole enc Tryd.prog ((World.doorLaid Tryd.prog 400 os).forCall (fun _ _ => 0) ⟨#[], #[.string ⟨#[]⟩], []⟩).memory Tryd.f5.params.toList Rows.fnExactParseMazeSpec.vars false (#[.string ⟨#[]⟩] : Array Value).toList 8 = some ([.lit (.string [])], [], places) :=
  ⟨[], by kernel_rfl⟩
theorem door_met (os : Os) : laidMetH Tryd.prog Rows.fnExactParseMazeRow.laid ((World.doorLaid Tryd.prog 400 os).forCall (fun _ _ => 0) ⟨#[], #[.string ⟨#[]⟩], []⟩).memory :=
  laidMetH_of_parts3 (fuel := 8) (laidMet_of_run' 8 (by kernel_rfl) (by kernel_rfl)) (by kernel_rfl) (by kernel_rfl)

set_option maxRecDepth 100000 in
theorem lifted (os : Os) (started : os.Started) (H : Type) (enc : TypeId × Value → H) (F : Stop.Interp) :
    ReturnsInHanded {} Tryd.checked os 5 .any ((OpenSpec.ofChange Rows.fnExactParseMazeSpec).preRow enc Tryd.prog Tryd.f5 Rows.fnExactParseMazeRow.domain false Rows.fnExactParseMazeRow.laid) (((OpenSpec.ofChange Rows.fnExactParseMazeSpec).at F).post enc Tryd.prog Tryd.f5 false true false false) := by
  obtain ⟨places, hx⟩ := reads os enc
  refine returnsInHanded_of_row (C := Tryd.checked) (s := OpenSpec.ofChange Rows.fnExactParseMazeSpec) own started (by kernel_rfl) Tryd.func5
    (witness_row_atRef (enc := enc) (C := Tryd.checked) false (World.doorLaid Tryd.prog 400 os) #[.string ⟨#[]⟩] rfl (by kernel_rfl) (by kernel_rfl) (by kernel_rfl)
      (OpenSpec.preRow_of_cond 8 hx (by kernel_rfl) (fun k hk => by cases hk) (by kernel_rfl) (door_met os))) ?_
  intro W base args ds gs before hval0 hW _ _ _ hL _ _
  have hval : ∀ (j : Nat) t v, Tryd.f5.params[j]? = some t → args[j]? = some v → Value.okWide Tryd.prog W .any base t v := hval0
  have hW' : DataW.Whole enc Tryd.prog Tryd.f5.params.toList Rows.fnExactParseMazeSpec.vars false W args.toList ds gs before := hW
  obtain ⟨p, q, hA0, hV, rfl, hfz, hnd⟩ := hW
  have hA : DataW.TrodAll enc Tryd.prog W 0 (fun _ => true) true Tryd.f5.params.toList args.toList ds p := hA0
  rw [Tryd.params5] at hA hval
  obtain ⟨v0, d0, rfl, rfl, h0⟩ := trodAll_one hA
  obtain ⟨rfl, rfl⟩ := trodVars_none hV
  clear hA0 hval0
  simp only [List.append_nil] at hW'
  have hlt : ∀ x ∈ p, x.block < W.heap.size := fun x hx => by simpa using hW'.lt x hx
  obtain ⟨s, rfl, rfl, rfl, hs⟩ := ChangeMaps.open_string Tryd.underlying9 (hval 0 9 v0 rfl rfl) h0
  refine (walk s W hs (tab_of hL) (syn_of hL) (rng_of hL)).mono fun e W' ⟨he, hg⟩ => ?_
  subst he
  exact ⟨_, rfl, post_below (s := Rows.fnExactParseMazeSpec) (pa := _) (pv := []) hW' (fun _ _ _ => (trodAll_cons_mk (shut_bool Tryd.underlying4 _) trodAll_mk0)) (fun sp _ => trodAll_mk1 (ChangeMaps.shut_string Tryd.underlying9 hs)) (fun _ _ => rfl) (by simp)
    hg (ok_one (by kernel_rfl) rfl (okWide_bool_mk Tryd.underlying4 _))⟩

theorem said : Rows.FnExactParseMazeSaid :=
  OpenClaim.holds_of_cond 5 Tryd.f5 rfl rfl rfl rfl rfl rfl rfl ⟨rfl, rfl, rfl, rfl, rfl⟩ rfl rfl rfl rfl rfl (by kernel_rfl) Tryd.func5 (by kernel_rfl)
    (of_decide_eq_true (by kernel_rfl)) (by unfold Func.isWrapper; first | (rw [if_pos (by decide +kernel)]; kernel_rfl) | (rw [if_neg (by decide +kernel)]; exact ⟨rfl, rfl⟩))
    (fun os started H enc _ F => by rw [OpenClaim.pre_eq_preRow]; exact lifted os started H enc F)

theorem plain (f : FuncId) (fn : Func) (hf : Tryd.pinned.checked.prog.funcNamed "loop.example/g00990/laws.FnExactParseMaze" = some f) (hfn : Tryd.pinned.checked.prog.funcs[f]? = some fn) :
    true = Tryd.pinned.checked.prog.looks [] ∧ ∀ (j : Nat) t, fn.params[j]? = some t → Tryd.pinned.checked.prog.wantsStandIn t = false := by
  obtain rfl : f = 5 := Option.some.inj ((show Tryd.prog.funcNamed "loop.example/g00990/laws.FnExactParseMaze" = some 5 by kernel_rfl).symm.trans hf) |>.symm
  obtain rfl : fn = Tryd.f5 := (Option.some.inj (Tryd.func5.symm.trans hfn)).symm
  refine ⟨by kernel_rfl, fun j t ht => ?_⟩
  rw [Tryd.params5] at ht
  obtain rfl : t = 9 := by simpa using Array.mem_of_getElem? ht
  exact (show Tryd.prog.wantsStandIn 9 = false by kernel_rfl)

theorem card : Rows.FnExactParseMazeCardSaid :=
  Claim7.holds_tied_plain_at .later [] _ _ _ _ said (fun _ h => by cases h) (by kernel_rfl) (fun _ h => by cases h) fnExactParseMaze_row_tie rfl ⟨rfl, rfl⟩ (by kernel_rfl) rfl plain (by kernel_rfl)
end Go.Proofs.YtmmdngfhfceefaaDoor.fnExactParseMaze
