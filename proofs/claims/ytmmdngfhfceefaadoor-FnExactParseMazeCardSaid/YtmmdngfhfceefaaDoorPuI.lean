/- The program's ParseUint answers the number whose decimal text its argument is, where the library's variables hold what they are laid with. -/
import Derived.Test.YtmmdngfhfceefaaDoorShelf
import Derived.Test.YtmmdngfhfceefaaDoorPuP
import Derived.Test.YtmmdngfhfceefaaDoorFmtI
import Derived.Lib.AtoiErrMem
import Derived.Stop.LaidErr
import Derived.WalkSpells
namespace Go.Proofs.YtmmdngfhfceefaaDoor.puI
open Go.ChangeShapes Go.WideShapes Go.ChangeAt Go.RowKit
open fmtP puP fmtI
set_option linter.unusedVariables false

/-- The library's two errors are there. -/
def Err (n : String) (w : World) : Prop := ∃ tp p, w.var? Tryd.prog n = some #[.iface tp p]
theorem var_below {w w' : World} {n : String} {cs : Array Value} (h : w.var? Tryd.prog n = some cs) (hb : Below w.heap.size w w') : w'.var? Tryd.prog n = some cs := by
  unfold World.var? at h ⊢
  cases hg : Tryd.prog.globalNamed n with
  | none => simp [hg] at h
  | some g =>
    simp only [hg, Option.bind_some] at h ⊢
    have hlt : g < w.heap.size := by
      rcases Nat.lt_or_ge g w.heap.size with h' | h'
      · exact h'
      · simp [Array.getElem?_eq_none h'] at h
    rw [hb.block g hlt]
    exact h
theorem Err.below {n : String} {w w' : World} (h : Err n w) (hb : Below w.heap.size w w') : Err n w' := let ⟨tp, p, e⟩ := h; ⟨tp, p, var_below e hb⟩

set_option maxRecDepth 100000 in
theorem parse_any (s : ByteArray) (w : World) (hs : s.size ≤ 281474976710656) (ht : Tab w) (hsyn : Err "strconv.ErrSyntax" w) (hrng : Err "strconv.ErrRange" w) :
    Calls Tryd.prog 29 #[.string s] w (PuPost s.data.toList w) := by
  have HT := Lib.hid ht
  clear ht
  rcases hall : Lib.atoiAll s.data.toList with v | _ | _
  · have hbd := Lib.atoiAll_bounds hall
    obtain ⟨hv1, hv2⟩ := hbd
    have K := Lib.hid (Tryd.strconv_Atoi_ok s (by omega) v hall w)
    have HB := Lib.hid (fun w' (h : w' = w ∨ ∃ t, w' = Lib.bytesWorld w 5 t) => show Below w.heap.size w w' by
      rcases h with rfl | ⟨t, rfl⟩
      · exact Below.refl _ _
      · exact Lib.bytesWorld_below w _ t)
    have HF := Lib.hid (fun W h => fmtI.format_any v W hv1 hv2 h)
    clear hsyn hrng
    by_cases hneg : v < 0
    · have HP := Lib.hid (fun w' h => pu_no (w := w) (w' := w') (no_of_ok hall (fun h => by have := h.1; omega)) h)
      clear hall
      go_enter Tryd.func29, Tryd.ntmps29
      go_wp2_with fail
      refine K.out.mono ?_
      rintro e w1 ⟨rfl, hw1⟩
      have hb1 := HB.out _ hw1
      clear hw1
      go_wp2_with fail
      go_ret2
      exact HP.out _ hb1
    · by_cases hbig : 1000000000 < v
      · have HP := Lib.hid (fun w' h => pu_no (w := w) (w' := w') (no_of_ok hall (fun h => by have := h.2.1; omega)) h)
        clear hall
        go_enter Tryd.func29, Tryd.ntmps29
        go_wp2_with fail
        refine K.out.mono ?_
        rintro e w1 ⟨rfl, hw1⟩
        have hb1 := HB.out _ hw1
        clear hw1
        go_wp2_with fail
        go_ret2
        exact HP.out _ hb1
      · by_cases heq : Lib.itoa v = s.data.toList
        · have hnum : IsNum s.data.toList v := ⟨by omega, by omega, heq⟩
          have HP := Lib.hid (fun w' h => pu_yes (w := w) (w' := w') hnum h)
          have hs2 : (⟨(Lib.itoa v).toArray⟩ : ByteArray) = s := by rw [heq]
          have HE := Lib.hid hs2
          clear hall hnum heq hs2
          go_enter Tryd.func29, Tryd.ntmps29
          go_wp2_with fail
          refine K.out.mono ?_
          rintro e w1 ⟨rfl, hw1⟩
          have hb1 := HB.out _ hw1
          clear hw1
          go_wp2_with fail
          refine (HF.out _ (HT.out.below hb1)).mono ?_
          rintro e w2 ⟨rfl, hb2⟩
          rw [HE.out]
          have hb : Below w.heap.size w w2 := hb1.trans (hb2.mono hb1.size)
          clear hb1 hb2
          go_wp2_with fail
          go_ret2
          exact HP.out _ hb
        · have HP := Lib.hid (fun w' h => pu_no (w := w) (w' := w') (no_of_ok hall (fun h => heq h.2.2)) h)
          have hne : (Lib.itoa v == s.toList) = false := by
            rw [beq_eq_false_iff_ne]; intro e; exact heq (by rw [e]; exact ByteArray.toList_eq s)
          clear hall heq
          go_enter Tryd.func29, Tryd.ntmps29
          go_wp2_with fail
          refine K.out.mono ?_
          rintro e w1 ⟨rfl, hw1⟩
          have hb1 := HB.out _ hw1
          clear hw1
          go_wp2_with fail
          refine (HF.out _ (HT.out.below hb1)).mono ?_
          rintro e w2 ⟨rfl, hb2⟩
          have hb : Below w.heap.size w w2 := hb1.trans (hb2.mono hb1.size)
          clear hb1 hb2
          go_wp2_with fail
          go_ret2
          exact HP.out _ hb
  · obtain ⟨tp, p, hv⟩ := hsyn
    have hbad : ∀ v, Lib.atoiAll s.data.toList ≠ .ok v := fun v h => by rw [hall] at h; cases h
    have K := Lib.hid (Tryd.strconv_Atoi_bad_var s hs hbad (fun h => by rw [hall] at h; cases h) tp p w hv)
    have HP := Lib.hid (fun w' h => pu_no (w := w) (w' := w') (no_of_bad hbad) h)
    clear hall hbad hv hrng
    go_enter Tryd.func29, Tryd.ntmps29
    go_wp2_with fail
    refine K.out.mono ?_
    rintro e w1 ⟨N, rfl, hN, hcell, hb1⟩
    clear hcell
    go_wp2_with fail
    go_ret2
    exact HP.out _ hb1
  · obtain ⟨tp, p, hv⟩ := hrng
    have K := Lib.hid (Tryd.strconv_Atoi_range_var s hs hall tp p w hv)
    have HP := Lib.hid (fun w' h => pu_no (w := w) (w' := w') (no_of_range hall) h)
    clear hall hv hsyn
    go_enter Tryd.func29, Tryd.ntmps29
    go_wp2_with fail
    refine K.out.mono ?_
    rintro e w1 ⟨N, rfl, hN, hcell, hb1⟩
    clear hcell
    go_wp2_with fail
    go_ret2
    exact HP.out _ hb1
end Go.Proofs.YtmmdngfhfceefaaDoor.puI
