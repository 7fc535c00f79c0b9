/- The law of DecodeHex: the program's decoded text is the model's, for every string. -/
import Derived.Test.YtijpbjnghkkdeaaDecI
import Derived.Test.YtijpbjnghkkdeaaDecS
import Derived.Test.YtijpbjnghkkdeaaLawKit
namespace Go.Proofs.Ytijpbjnghkkdeaa.fnExactDecodeHex
open Go.ChangeShapes Go.WideShapes Go.ChangeAt Go.RowKit
open hexP decP lawKit
set_option linter.unusedVariables false

theorem impl_len (s : ByteArray) (w : World) (h : 40000 < s.size ∨ s.size % 2 = 1) (hs' : s.size ≤ maxLen) :
    Calls Try.prog 14 #[.string s] w fun e w' => e = .returned (.tuple #[.string ⟨#[]⟩, .bool false]) ∧ w = w' := by
  unfold maxLen at hs'
  by_cases ho : s.size % 2 = 1
  · have he' : ((s.size : Int) % 2 != 0) = true := by simp; omega
    by_cases hl : 40000 < s.size
    · clear h ho
      go_enter Try.func14, Try.ntmps14
      go_wp2
      go_ret2
      exact ⟨rfl, rfl⟩
    · clear h ho
      go_enter Try.func14, Try.ntmps14
      go_wp2
      go_ret2
      exact ⟨rfl, rfl⟩
  · have he' : ((s.size : Int) % 2 != 0) = false := by simp; omega
    have hl : 40000 < s.size := by omega
    clear h ho
    go_enter Try.func14, Try.ntmps14
    go_wp2
    go_ret2
    exact ⟨rfl, rfl⟩

theorem spec_len (s : ByteArray) (w : World) (h : 40000 < s.size ∨ s.size % 2 = 1) (hs' : s.size ≤ maxLen) :
    Calls Try.prog 13 #[.string s] w fun e w' => e = .returned (.tuple #[.string ⟨#[]⟩, .bool false]) ∧ w = w' := by
  unfold maxLen at hs'
  by_cases ho : s.size % 2 = 1
  · have he' : ((s.size : Int) % 2 != 0) = true := by simp; omega
    by_cases hl : 40000 < s.size
    · clear h ho
      go_enter Try.func13, Try.ntmps13
      go_wp2
      go_ret2
      exact ⟨rfl, rfl⟩
    · clear h ho
      go_enter Try.func13, Try.ntmps13
      go_wp2
      go_ret2
      exact ⟨rfl, rfl⟩
  · have he' : ((s.size : Int) % 2 != 0) = false := by simp; omega
    have hl : 40000 < s.size := by omega
    clear h ho
    go_enter Try.func13, Try.ntmps13
    go_wp2
    go_ret2
    exact ⟨rfl, rfl⟩

/-- The law's answer. -/
def Yes (w : World) (e : Ending) (w' : World) : Prop := e = .returned (.bool true) ∧ Below w.heap.size w w'
theorem yes_mk {w w' : World} (h : Below w.heap.size w w') : Yes w (.returned (.bool true)) w' := ⟨rfl, h⟩

theorem walk (s : ByteArray) (w : World) (hs : s.size ≤ maxLen) :
    Calls Try.prog 5 #[.string s] w (Yes w) := by
  have HK := @Lib.hid _ (fun w' h => @yes_mk w w' h)
  have HR := Lib.hid (Below.refl w.heap.size w)
  have HS := Lib.hid hs
  unfold maxLen at hs
  by_cases hbig : 1048576 < s.size
  · go_enter Try.func5, Try.ntmps5
    go_wp2_with fail
    go_ret
    exact HK.out _ HR.out
  · by_cases hl : 40000 < s.size ∨ s.size % 2 = 1
    · have HL := Lib.hid hl
      clear hl
      go_enter Try.func5, Try.ntmps5
      go_wp2_with fail
      refine (spec_len s _ HL.out HS.out).mono ?_
      rintro e w' ⟨rfl, rfl⟩
      go_wp2_with fail
      refine (impl_len s _ HL.out HS.out).mono ?_
      rintro e w' ⟨rfl, rfl⟩
      go_wp2_with fail
      go_ret
      exact HK.out _ HR.out
    · have h1 : s.size ≤ 40000 := by omega
      have h2 : s.size % 2 = 0 := by omega
      have H2 := Lib.hid h2
      clear h2 hl
      go_enter Try.func5, Try.ntmps5
      go_wp2_with fail
      refine (decS1.decode_any s _ h1 H2.out).mono ?_
      rintro e w1 ⟨hd1, hb1⟩
      rcases hd1 with ⟨hg, rfl⟩ | ⟨hg, rfl⟩
      · go_wp2_with fail
        refine (decI1.decode_any s _ h1 H2.out).mono ?_
        rintro e w2 ⟨hd2, hb2⟩
        rcases hd2 with ⟨hg2, rfl⟩ | ⟨hg2, rfl⟩
        · have hb : Below w.heap.size w w2 := hb1.trans (hb2.mono hb1.size)
          clear hb1 hb2 hg hg2
          go_wp2_with fail
          go_ret
          exact HK.out _ hb
        · exact absurd hg hg2
      · go_wp2_with fail
        refine (decI1.decode_any s _ h1 H2.out).mono ?_
        rintro e w2 ⟨hd2, hb2⟩
        rcases hd2 with ⟨hg2, rfl⟩ | ⟨hg2, rfl⟩
        · exact absurd hg2 hg
        · have hb : Below w.heap.size w w2 := hb1.trans (hb2.mono hb1.size)
          clear hb1 hb2 hg hg2
          go_wp2_with fail
          go_ret
          exact HK.out _ hb

set_option maxRecDepth 100000 in
theorem lifted (os : Os) (started : os.Started) (H : Type) (enc : TypeId × Value → H) :
    ReturnsInHanded {} Try.checked os 5 .any (Rows.fnExactDecodeHexSpec.pre6 enc Try.prog Try.f5 Rows.fnExactDecodeHexRow.domain false) (Rows.fnExactDecodeHexSpec.post enc Try.prog Try.f5 false true false false) := by
  refine returnsInHanded_of_change (C := Try.checked) own started (by kernel_rfl) Try.func5
    (ChangeSpec.witness6 (enc := enc) (C := Try.checked) false ⟨#[], #[.string ⟨#[]⟩], []⟩ 8 (by kernel_rfl) (by kernel_rfl) (by kernel_rfl) (by kernel_rfl)) ?_
  intro W base args ds gs before hval0 hW _ _
  have hval : ∀ (j : Nat) t v, Try.f5.params[j]? = some t → args[j]? = some v → Value.okWide Try.prog W .any base t v := hval0
  have hW' := hW
  obtain ⟨p, q, hA0, hV, rfl, hfz, hnd⟩ := hW
  have hA : DataW.TrodAll enc Try.prog W 0 (fun _ => true) true Try.f5.params.toList args.toList ds p := hA0
  rw [Try.params5] at hA hval
  obtain ⟨v0, d0, rfl, rfl, h0⟩ := trodAll_one hA
  obtain ⟨rfl, rfl⟩ := trodVars_none hV
  clear hA0 hval0
  simp only [List.append_nil] at hW'
  have hlt : ∀ x ∈ p, x.block < W.heap.size := fun x hx => by simpa using hW'.lt x hx
  obtain ⟨s, rfl, rfl, rfl, hs⟩ := ChangeMaps.open_string Try.underlying9 (hval 0 9 v0 rfl rfl) h0
  refine (walk s W hs).mono fun e W' ⟨he, hg⟩ => ?_
  subst he
  exact ⟨_, rfl, post_below (pa := _) (pv := []) hW' (fun _ _ _ => (trodAll_cons_mk (shut_bool Try.underlying4 _) trodAll_mk0)) (fun sp _ => trodAll_mk1 (ChangeMaps.shut_string Try.underlying9 hs)) (fun _ _ => rfl) (by simp)
    hg (ok_one (by kernel_rfl) rfl (okWide_bool_mk Try.underlying4 _))⟩

theorem over : Rows.fnExactDecodeHexRow.holds Try.pinned (OpenSpec.ofChange Rows.fnExactDecodeHexSpec) :=
  OpenClaim.holds_of_wide 5 Try.f5 rfl rfl rfl rfl rfl rfl rfl ⟨rfl, rfl, rfl, rfl, rfl⟩ rfl rfl rfl rfl rfl (by kernel_rfl) Try.func5 (by kernel_rfl)
    (of_decide_eq_true (by kernel_rfl)) (by unfold Func.isWrapper; first | (rw [if_pos (by decide +kernel)]; kernel_rfl) | (rw [if_neg (by decide +kernel)]; exact ⟨rfl, rfl⟩))
    (fun os started H enc _ => lifted os started H enc)

theorem proved : Rows.FnExactDecodeHexSaid :=
  over
end Go.Proofs.Ytijpbjnghkkdeaa.fnExactDecodeHex
