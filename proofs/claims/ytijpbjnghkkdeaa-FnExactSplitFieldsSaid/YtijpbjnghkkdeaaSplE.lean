/- The law of SplitFields: the program's fields are the model's, and its answer owns its memory, for every line. -/
import Derived.Test.YtijpbjnghkkdeaaSplI
import Derived.Test.YtijpbjnghkkdeaaSplS
import Derived.Test.YtijpbjnghkkdeaaStrK
import Derived.Test.YtijpbjnghkkdeaaLawKit
namespace Go.Proofs.Ytijpbjnghkkdeaa.fnExactSplitFields
open Go.ChangeShapes Go.WideShapes Go.ChangeAt Go.RowKit
open hexP splP strK lawKit
set_option linter.unusedVariables false

theorem scells_map (fs : List (List UInt8)) : scells fs = (fs.map fun f => (⟨f.toArray⟩ : ByteArray)).map Value.string := by simp [scells]

/-- What a valid or an invalid line is answered is one and the same. -/
theorem same_ans {s : ByteArray} {fs fs' : List (List UInt8)} {b b' : Bool} (h : (OK s ∧ b = true ∧ fs = split s.data.toList) ∨ (¬ OK s ∧ b = false ∧ fs = [])) (h' : (OK s ∧ b' = true ∧ fs' = split s.data.toList) ∨ (¬ OK s ∧ b' = false ∧ fs' = [])) : fs = fs' ∧ b = b' := by
  rcases h with ⟨h1, rfl, rfl⟩ | ⟨h1, rfl, rfl⟩ <;> rcases h' with ⟨h2, rfl, rfl⟩ | ⟨h2, rfl, rfl⟩
  · exact ⟨rfl, rfl⟩
  · exact absurd h1 h2
  · exact absurd h2 h1
  · exact ⟨rfl, rfl⟩
theorem ans_len {s : ByteArray} {fs : List (List UInt8)} {b : Bool} (h : (OK s ∧ b = true ∧ fs = split s.data.toList) ∨ (¬ OK s ∧ b = false ∧ fs = [])) : fs.length ≤ 24 := by
  rcases h with ⟨h1, rfl, rfl⟩ | ⟨h1, rfl, rfl⟩
  · exact h1.2.2
  · simp

/-- The law's answer. -/
def Yes (w : World) (e : Ending) (w' : World) : Prop := e = .returned (.bool true) ∧ Below w.heap.size w w'
theorem yes_mk {w w' : World} (h : Below w.heap.size w w') : Yes w (.returned (.bool true)) w' := ⟨rfl, h⟩
theorem eq_b (va vb : Value) (ba bb n : Nat) (xs : List ByteArray) (w : World) (hx : xs.length = n) (hn : n ≤ 65536)
    (ha : w.ownsRow ba 9 1 va n (xs.map Value.string)) (hb : w.ownsRow bb 9 1 vb n (xs.map Value.string)) :
    Calls Try.prog 17 #[va, vb] w fun e w' => e = .returned (.bool true) ∧ Below w.heap.size w w' :=
  (eq_same va vb ba bb n xs w hx hn ha hb).mono fun e w' ⟨he, d, hw⟩ => ⟨he, by rw [hw]; exact ⟨rfl, rfl, rfl, Nat.le_refl _, fun _ _ => rfl⟩⟩
theorem below_drewN {B : Nat} {a w : World} (h : Below B a w) (n : Nat) : Below B a (w.drewN n) := ⟨h.os, h.tape, h.output, h.size, h.block⟩

set_option maxRecDepth 100000 in
theorem walk (s : ByteArray) (w : World) (hs : s.size ≤ maxLen) :
    Calls Try.prog 6 #[.string s] w (Yes w) := by
  have HK := @Lib.hid _ (fun w' h => @yes_mk w w' h)
  have HR := Lib.hid (Below.refl w.heap.size w)
  have HS := Lib.hid hs
  unfold maxLen at hs
  by_cases hbig : 1048576 < s.size
  · go_enter Try.func6, Try.ntmps6
    go_wp2_with fail
    go_ret
    exact HK.out _ HR.out
  · go_enter Try.func6, Try.ntmps6
    go_wp2_with fail
    refine (splS.split_any s _ HS.out).mono ?_
    rintro e w1 ⟨v0, fs, b, rfl, hans, hown0, hb1⟩
    go_wp2_with fail
    refine (splI.split_any s _ HS.out).mono ?_
    rintro e w2 ⟨v1, fs1, b1, rfl, hans1, hown1, hb2⟩
    obtain ⟨rfl, rfl⟩ := same_ans hans hans1
    have hlen := ans_len hans
    have HA := Lib.hid hans
    clear hans hans1
    have h0lt : ∀ g, v0.ownBlock = some g → g < w1.heap.size := own_lt hown0
    have HL0 := Lib.hid h0lt
    have hown0b := own_below hown0 hb2 h0lt
    have hb12 : Below w.heap.size w w2 := hb1.trans (hb2.mono hb1.size)
    rw [scells_map] at hown0b hown1
    have hlm : (fs.map fun f => (⟨f.toArray⟩ : ByteArray)).length = fs.length := by simp
    have HLM := Lib.hid hlm
    have H0 := Lib.hid hown0b
    have H1 := Lib.hid hown1
    have hz1 : w1.heap.size ≤ w2.heap.size := hb2.size
    have HW1 := Lib.hid hb1.size
    clear hown0 h0lt hown0b hown1 hb1 hb2 hlm
    go_wp2_with fail
    refine (eq_b v1 v0 w1.heap.size w.heap.size fs.length _ _ HLM.out (by omega) H1.out H0.out).mono ?_
    rintro e w3 ⟨rfl, hb3⟩
    have HB3 := Lib.hid (hb12.trans (hb3.mono hb12.size))
    have H03 := Lib.hid (own_below H0.out hb3 (own_lt H0.out))
    have H13 := Lib.hid (own_below H1.out hb3 (own_lt H1.out))
    have hz3 : w1.heap.size ≤ w3.heap.size := Nat.le_trans hz1 hb3.size
    have hbb : (b != b) = false := by cases b <;> rfl
    clear hb3 hb12 hz1
    go_wp2_with fail
    refine (mark_any v1 w1.heap.size fs.length 1 1 _ _ rfl (by omega) (by omega) hz3 H13.out).mono ?_
    rintro e w4 ⟨rfl, hown4, hb4⟩
    have HM4 := Lib.hid hown4
    have H04 := Lib.hid (own_below H03.out hb4 HL0.out)
    have HB4 := Lib.hid (HB3.out.trans (hb4.mono HW1.out))
    clear hown4 hb4 hz3
    go_wp2_with fail
    refine (held_any v1 w1.heap.size fs.length 1 1 _ rfl (by omega) (by omega) HM4.out).mono ?_
    rintro e w5 ⟨rfl, hb5⟩
    have HM5 := Lib.hid (own_below HM4.out hb5 (own_lt HM4.out))
    have H05 := Lib.hid (own_below H04.out hb5 (own_lt H04.out))
    have HB5 := Lib.hid (HB4.out.trans (hb5.mono HB4.out.size))
    have hne : (((1 + fs.length : Nat) : Int) != ((1 + fs.length : Nat) : Int)) = false := by simp
    have hne2 : ((1 : Int) + (fs.length : Int) != (1 : Int) + (fs.length : Int)) = false := by simp
    clear hb5
    go_wp2_with fail
    refine (splI.split_any s _ HS.out).mono ?_
    rintro e w6 ⟨v2, fs2, b2, rfl, hans2, hown2, hb6⟩
    obtain ⟨rfl, rfl⟩ := same_ans HA.out hans2
    rw [scells_map] at hown2
    have HM6 := Lib.hid (own_below HM5.out hb6 (own_lt HM5.out))
    have H06 := Lib.hid (own_below H05.out hb6 (own_lt H05.out))
    have HB6 := Lib.hid (HB5.out.trans (hb6.mono HB5.out.size))
    have H26 := Lib.hid hown2
    clear hb6 hown2 hans2
    go_wp2_with fail
    refine (eq_b v2 v0 w5.heap.size w.heap.size fs.length _ _ HLM.out (by omega) H26.out H06.out).mono ?_
    rintro e w7 ⟨rfl, hb7⟩
    have HM7 := Lib.hid (own_below HM6.out hb7 (own_lt HM6.out))
    have HB7 := Lib.hid (HB6.out.trans (hb7.mono HB6.out.size))
    clear hb7
    go_wp2_with fail
    refine (held_any v1 w1.heap.size fs.length 1 1 _ rfl (by omega) (by omega) HM7.out).mono ?_
    rintro e w8 ⟨rfl, hb8⟩
    have HB8 := Lib.hid (HB7.out.trans (hb8.mono HB7.out.size))
    clear hb8
    go_wp2_with fail
    go_ret
    exact HK.out _ HB8.out

set_option maxRecDepth 100000 in
theorem lifted (os : Os) (started : os.Started) (H : Type) (enc : TypeId × Value → H) :
    ReturnsInHanded {} Try.checked os 6 .any (Rows.fnExactSplitFieldsSpec.pre6 enc Try.prog Try.f6 Rows.fnExactSplitFieldsRow.domain false) (Rows.fnExactSplitFieldsSpec.post enc Try.prog Try.f6 false true false false) := by
  refine returnsInHanded_of_change (C := Try.checked) own started (by kernel_rfl) Try.func6
    (ChangeSpec.witness6 (enc := enc) (C := Try.checked) false ⟨#[], #[.string ⟨#[]⟩], []⟩ 8 (by kernel_rfl) (by kernel_rfl) (by kernel_rfl) (by kernel_rfl)) ?_
  intro W base args ds gs before hval0 hW _ _
  have hval : ∀ (j : Nat) t v, Try.f6.params[j]? = some t → args[j]? = some v → Value.okWide Try.prog W .any base t v := hval0
  have hW' := hW
  obtain ⟨p, q, hA0, hV, rfl, hfz, hnd⟩ := hW
  have hA : DataW.TrodAll enc Try.prog W 0 (fun _ => true) true Try.f6.params.toList args.toList ds p := hA0
  rw [Try.params6] at hA hval
  obtain ⟨v0, d0, rfl, rfl, h0⟩ := trodAll_one hA
  obtain ⟨rfl, rfl⟩ := trodVars_none hV
  clear hA0 hval0
  simp only [List.append_nil] at hW'
  have hlt : ∀ x ∈ p, x.block < W.heap.size := fun x hx => by simpa using hW'.lt x hx
  obtain ⟨s, rfl, rfl, rfl, hs⟩ := ChangeMaps.open_string Try.underlying9 (hval 0 9 v0 rfl rfl) h0
  refine (walk s W hs).mono fun e W' ⟨he, hg⟩ => ?_
  subst he
  exact ⟨_, rfl, post_below (pa := _) (pv := []) hW' (fun _ _ _ => (trodAll_cons_mk (shut_bool Try.underlying4 _) trodAll_mk0)) (fun sp _ => trodAll_mk1 (ChangeMaps.shut_string Try.underlying9 hs)) (fun _ _ => rfl) (by simp)
    hg (ok_one (by kernel_rfl) rfl (okWide_bool_mk Try.underlying4 _))⟩

theorem over : Rows.fnExactSplitFieldsRow.holds Try.pinned (OpenSpec.ofChange Rows.fnExactSplitFieldsSpec) :=
  OpenClaim.holds_of_wide 6 Try.f6 rfl rfl rfl rfl rfl rfl rfl ⟨rfl, rfl, rfl, rfl, rfl⟩ rfl rfl rfl rfl rfl (by kernel_rfl) Try.func6 (by kernel_rfl)
    (of_decide_eq_true (by kernel_rfl)) (by unfold Func.isWrapper; first | (rw [if_pos (by decide +kernel)]; kernel_rfl) | (rw [if_neg (by decide +kernel)]; exact ⟨rfl, rfl⟩))
    (fun os started H enc _ => lifted os started H enc)

theorem proved : Rows.FnExactSplitFieldsSaid :=
  over
end Go.Proofs.Ytijpbjnghkkdeaa.fnExactSplitFields
