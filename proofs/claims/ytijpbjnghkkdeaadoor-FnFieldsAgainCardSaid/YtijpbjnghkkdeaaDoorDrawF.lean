/- The draws of the laws: the line that a splitting is tried at. -/
import Derived.Test.YtijpbjnghkkdeaaDoorDrawH
import Derived.Laws.IdiomStrings
namespace Go.Proofs.YtijpbjnghkkdeaaDoor.draw
open Go.ChangeShapes Go.WideShapes Go.ChangeAt Go.RowKit
open hexP
set_option linter.unusedVariables false

/-- A draw answers one of some short texts. -/
def DrawnP (g : Nat) (w : World) (e : Ending) (w' : World) : Prop := ∃ t : ByteArray, t.size ≤ 2 ∧ e = .returned (.string t) ∧ Cur w' g ∧ w.grownBy w' (some g)
theorem drawnP_mk {g : Nat} {w w' : World} (t : ByteArray) (h : t.size ≤ 2) (hc : Cur w' g) (hg : w.grownBy w' (some g)) : DrawnP g w (.returned (.string t)) w' := ⟨t, h, rfl, hc, hg⟩
theorem pick_any (g s n : Nat) (zs : List ByteArray) (w : World) (hc : Cur w g) (hn : 0 < n) (hn' : n ≤ 65536) (hs : s ≠ g) (hlt : s < w.heap.size) (hz : ∀ k, k < n → w.cell? ⟨s, k, none⟩ = some (.string (zs.getD k ⟨#[]⟩)))
    (hr : ∀ k, k < n → (zs.getD k ⟨#[]⟩).size ≤ 2) :
    Calls Tryd.prog 30 #[.pointer (some ⟨g, 0, none⟩), .slice (some ⟨s, 0, none⟩) n n] w (DrawnP g w) := by
  have HK := @Lib.hid _ (fun w' b h (h1 : Cur w' g) (h2 : w.grownBy w' (some g)) => @drawnP_mk g w w' b h h1 h2)
  have HZ := Lib.hid hz
  have HR := Lib.hid hr
  clear hz hr
  go_enter Tryd.func30, Tryd.ntmps30
  go_wp2_with fail
  refine (below_any g _ _ hc (by omega) (by omega)).mono ?_
  rintro e w1 ⟨x, hx, rfl, hc1, hg1⟩
  have hx' : x < n := by omega
  clear hx
  have hcell : w1.cell? ⟨s, x, none⟩ = some (.string (zs.getD x ⟨#[]⟩)) := hg1.cell (HZ.out x hx') (by simp; omega)
  have HR' := Lib.hid (HR.out x hx')
  generalize zs.getD x ⟨#[]⟩ = t at hcell HR'
  go_wp2_with fail
  go_ret
  exact HK.out _ _ HR'.out hc1 hg1

theorem conv_chr (w : World) (r : Nat) (h : r ≤ 93) : (convert 22 9 (.slice (some ⟨w.heap.size, 0, none⟩) 1 1)).run Tryd.prog (w.alloc (.cells #[.int .u8 (33 + (r : Int))] 5)) = .ok (.string ⟨#[UInt8.ofNat (33 + r)]⟩) (w.alloc (.cells #[.int .u8 (33 + (r : Int))] 5)) := by
  have e : 33 + (r : Int) = ((UInt8.ofNat (33 + r)).toNat : Int) := by rw [UInt8.toNat_ofNat']; omega
  rw [e]
  exact run_convert_bytes_back (P := Tryd.prog) _ 22 9 5 ⟨w.heap.size, 0, none⟩ 1 [UInt8.ofNat (33 + r)] Tryd.underlying22 Tryd.underlying5 Tryd.underlying9 fun j hj => by
    have : j = 0 := by simp at hj; omega
    subst this
    simp [Addr.add]

/-- At the head of a round of the outer loop: i fields are drawn. -/
def DsRel (m : Nat) (w : World) (u5 u6 : Value) (wr : World) : Prop :=
  ∃ (i : Nat) (s : ByteArray), i ≤ m ∧ u6 = .int .i64 i ∧ u5 = .string s ∧ s.size ≤ 8 * i ∧ Cur wr w.heap.size ∧ Below w.heap.size w wr
/-- At the head of a round of the inner loop: k bytes of the field are drawn. -/
def InRel (i : Nat) (w : World) (v5 v7 : Value) (wx : World) : Prop :=
  ∃ (k : Nat) (z : ByteArray), k ≤ 5 ∧ v7 = .int .i64 k ∧ v5 = .string z ∧ z.size ≤ 8 * i + 3 + k ∧ Cur wx w.heap.size ∧ Below w.heap.size w wx
theorem in_step {i k : Nat} {w wx : World} {z : ByteArray} {c : UInt8} {o : Obj} (hk : k + 1 ≤ 5) (hz : z.size ≤ 8 * i + 3 + k) (hc : Cur wx w.heap.size) (hb : Below w.heap.size w wx) :
    InRel i w (.string (z ++ ⟨#[c]⟩)) (.int .i64 ((k : Int) + 1)) (wx.alloc o) :=
  ⟨k + 1, _, hk, by go_num, rfl, by rw [ByteArray.size_append]; have e : (⟨#[c]⟩ : ByteArray).size = 1 := rfl; omega, hc.allocR o, hb.alloc hb.size o⟩
theorem ds_step {m i k : Nat} {w wx : World} {z : ByteArray} (hlt : i < m) (hz : z.size ≤ 8 * i + 3 + k) (hk : k ≤ 5) (hc : Cur wx w.heap.size) (hb : Below w.heap.size w wx) :
    DsRel m w (.string z) (.int .i64 ((i : Int) + 1)) wx :=
  ⟨i + 1, z, hlt, by go_num, rfl, by omega, hc, hb⟩

set_option maxRecDepth 100000 in
set_option maxHeartbeats 1000000 in
theorem drawSplitFields_any (A : Option Addr) (n c : Nat) (w : World) (hn : n ≤ maxLen) (hb : BytesIn w w.heap.size A n) :
    Calls Tryd.prog 15 #[.slice A n c] w (TextB w) := by
  have HK := @Lib.hid _ (fun w' s hs (h : Below w.heap.size w w') => @textB_mk w w' s hs h)
  go_enter Tryd.func15, Tryd.ntmps15
  go_wp2_with fail
  refine (new_any A n c w hn hb).mono ?_
  rintro e w1 ⟨rfl, hc1, hb1, hs1⟩
  have hz1 : w.heap.size ≤ w1.heap.size := by omega
  clear hs1
  go_wp2_with fail
  refine (below_any _ _ _ hc1 (by omega) (by omega)).mono ?_
  rintro e w2 ⟨x0, hx0, rfl, hc2, hg2⟩
  have hb2 := below_curT hb1 hg2 (Nat.le_refl _) hz1
  have hx9 : x0 ≤ 8 := by omega
  clear hc1 hb1 hg2 hx0
  go_wp2_with fail
  refine (once_any _ _ _ hc2 (by omega) (by omega)).mono ?_
  rintro e w3 ⟨o, rfl, hc3, hg3⟩
  have hb3 := below_curT hb2 hg3 (Nat.le_refl _) hb2.size
  clear hc2 hb2 hg3
  cases o
  · have hc4 := hc3
    have hb4 := hb3
    obtain ⟨m, rfl⟩ : ∃ m, m = x0 := ⟨_, rfl⟩
    have hm : m ≤ 26 := by omega
    clear hc3 hb3
    go_wp2_with fail
    go_loopw [5, 6] (fun u5 u6 wr => DsRel m w u5 u6 wr) (fun _ u6 _ => m - (intOf u6).toNat)
    case atStart => exact ⟨0, ⟨#[]⟩, Nat.zero_le _, rfl, rfl, by simp [ByteArray.size], hc4, hb4⟩
    case round =>
      obtain ⟨i, s, hi, rfl, rfl, hs, hcr, hbr⟩ := hrel
      clear hc4 hb4
      by_cases hlt : i < m
      · by_cases hi0 : 0 < i
        · go_wp2_with fail
          refine (below_any _ _ _ hcr (by omega) (by omega)).mono ?_
          rintro e wa ⟨x, hx, rfl, hca, hga⟩
          have hba := below_curT hbr hga (Nat.le_refl _) hbr.size
          have hx1 : x ≤ 1 := by omega
          clear hga hx hcr hbr
          go_wp2_with fail
          refine (below_any _ _ _ hca (by omega) (by omega)).mono ?_
          rintro e wb ⟨y, hy, rfl, hcb, hgb⟩
          have hbb := below_curT hba hgb (Nat.le_refl _) hba.size
          have hy1 : y ≤ 2 := by omega
          obtain ⟨p, hp, hp2⟩ : ∃ p : Nat, (x : Int) * (y : Int) = (p : Int) ∧ p ≤ 2 := by
            refine ⟨x * y, by simp, ?_⟩
            have := Nat.mul_le_mul hx1 hy1
            omega
          have HPm := Lib.hid hp
          have hp0 : (0 : Int) ≤ (x : Int) * (y : Int) := by omega
          have hpb : (x : Int) * (y : Int) ≤ 2 := by omega
          clear hgb hy hca hba hp
          go_wp2_with fail
          refine (long_any _ (1 + p) _ 32 _ (by have := HPm.out; omega) (by decide) (by omega)).mono ?_
          rintro e wc ⟨t, ht, rfl, hgc⟩
          have hbc : Below w.heap.size w wc := hbb.trans (hgc.mono hbb.size)
          have hcc := hcb.kept hgc hcb.lt
          have ht1 : t.size ≤ 3 := by omega
          have hs1 : (s ++ t).size ≤ 8 * i + 3 := by rw [ByteArray.size_append]; omega
          clear hgc hbb hcb ht
          go_wp2_with fail
          go_loopw [5, 7] (fun v5 v7 wx => InRel i w v5 v7 wx) (fun _ v7 _ => 5 - (intOf v7).toNat)
          case atStart => exact ⟨0, s ++ t, by omega, rfl, rfl, hs1, hcc, hbc⟩
          case round =>
            obtain ⟨k, z, hk, rfl, rfl, hz, hcx, hbx⟩ := hrel
            go_wp2_with fail
            refine (below_any _ _ _ hcx (by omega) (by omega)).mono ?_
            rintro e wd ⟨q, hq, rfl, hcd, hgd⟩
            have hbd := below_curT hbx hgd (Nat.le_refl _) hbx.size
            have hq4 : q ≤ 4 := by omega
            clear hgd hq hcx hbx
            by_cases hkq : k ≤ q
            · go_wp2_with fail
              refine (below_any _ _ _ hcd (by omega) (by omega)).mono ?_
              rintro e we ⟨r, hr, rfl, hce, hge⟩
              have hbe := below_curT hbd hge (Nat.le_refl _) hbd.size
              have hr1 : r ≤ 93 := by omega
              have hcv := conv_chr we r hr1
              clear hge hr hcd hbd
              go_wp2_with fail
              go_roundw
              case rel => exact in_step (by omega) hz hce hbe
              case measure => simp [intOf]; omega
            · go_wp2_with fail
              go_roundw
              case rel => exact ds_step hlt hz (by omega) hcd hbd
              case measure => simp [intOf]; omega
        · obtain rfl : i = 0 := by omega
          go_wp2_with fail
          refine (once_any _ _ _ hcr (by omega) (by omega)).mono ?_
          rintro e wz ⟨o2, rfl, hcz, hgz⟩
          have hbz := below_curT hbr hgz (Nat.le_refl _) hbr.size
          clear hgz hcr hbr
          cases o2
          · have hs1 : s.size ≤ 8 * 0 + 3 := by omega
            go_wp2_with fail
            go_loopw [5, 7] (fun v5 v7 wx => InRel 0 w v5 v7 wx) (fun _ v7 _ => 5 - (intOf v7).toNat)
            case atStart => exact ⟨0, s, by omega, rfl, rfl, hs1, hcz, hbz⟩
            case round =>
              obtain ⟨k, z, hk, rfl, rfl, hz, hcx, hbx⟩ := hrel
              go_wp2_with fail
              refine (below_any _ _ _ hcx (by omega) (by omega)).mono ?_
              rintro e wd ⟨q, hq, rfl, hcd, hgd⟩
              have hbd := below_curT hbx hgd (Nat.le_refl _) hbx.size
              have hq4 : q ≤ 4 := by omega
              clear hgd hq hcx hbx
              by_cases hkq : k ≤ q
              · go_wp2_with fail
                refine (below_any _ _ _ hcd (by omega) (by omega)).mono ?_
                rintro e we ⟨r, hr, rfl, hce, hge⟩
                have hbe := below_curT hbd hge (Nat.le_refl _) hbd.size
                have hr1 : r ≤ 93 := by omega
                have hcv := conv_chr we r hr1
                clear hge hr hcd hbd
                go_wp2_with fail
                go_roundw
                case rel => exact in_step (by omega) hz hce hbe
                case measure => simp [intOf]; omega
              · go_wp2_with fail
                go_roundw
                case rel => exact ds_step hlt hz (by omega) hcd hbd
                case measure => simp [intOf]; omega
          · go_wp2_with fail
            refine (below_any _ _ _ hcz (by omega) (by omega)).mono ?_
            rintro e wa ⟨x, hx, rfl, hca, hga⟩
            have hba := below_curT hbz hga (Nat.le_refl _) hbz.size
            have hx1 : x ≤ 1 := by omega
            clear hga hx hcz hbz
            go_wp2_with fail
            refine (below_any _ _ _ hca (by omega) (by omega)).mono ?_
            rintro e wb ⟨y, hy, rfl, hcb, hgb⟩
            have hbb := below_curT hba hgb (Nat.le_refl _) hba.size
            have hy1 : y ≤ 2 := by omega
            obtain ⟨p, hp, hp2⟩ : ∃ p : Nat, (x : Int) * (y : Int) = (p : Int) ∧ p ≤ 2 := by
              refine ⟨x * y, by simp, ?_⟩
              have := Nat.mul_le_mul hx1 hy1
              omega
            have HPm := Lib.hid hp
            have hp0 : (0 : Int) ≤ (x : Int) * (y : Int) := by omega
            have hpb : (x : Int) * (y : Int) ≤ 2 := by omega
            clear hgb hy hca hba hp
            go_wp2_with fail
            refine (long_any _ (1 + p) _ 32 _ (by have := HPm.out; omega) (by decide) (by omega)).mono ?_
            rintro e wc ⟨t, ht, rfl, hgc⟩
            have hbc : Below w.heap.size w wc := hbb.trans (hgc.mono hbb.size)
            have hcc := hcb.kept hgc hcb.lt
            have ht1 : t.size ≤ 3 := by omega
            have hs1 : (s ++ t).size ≤ 8 * 0 + 3 := by rw [ByteArray.size_append]; omega
            clear hgc hbb hcb ht
            go_wp2_with fail
            go_loopw [5, 7] (fun v5 v7 wx => InRel 0 w v5 v7 wx) (fun _ v7 _ => 5 - (intOf v7).toNat)
            case atStart => exact ⟨0, s ++ t, by omega, rfl, rfl, hs1, hcc, hbc⟩
            case round =>
              obtain ⟨k, z, hk, rfl, rfl, hz, hcx, hbx⟩ := hrel
              go_wp2_with fail
              refine (below_any _ _ _ hcx (by omega) (by omega)).mono ?_
              rintro e wd ⟨q, hq, rfl, hcd, hgd⟩
              have hbd := below_curT hbx hgd (Nat.le_refl _) hbx.size
              have hq4 : q ≤ 4 := by omega
              clear hgd hq hcx hbx
              by_cases hkq : k ≤ q
              · go_wp2_with fail
                refine (below_any _ _ _ hcd (by omega) (by omega)).mono ?_
                rintro e we ⟨r, hr, rfl, hce, hge⟩
                have hbe := below_curT hbd hge (Nat.le_refl _) hbd.size
                have hr1 : r ≤ 93 := by omega
                have hcv := conv_chr we r hr1
                clear hge hr hcd hbd
                go_wp2_with fail
                go_roundw
                case rel => exact in_step (by omega) hz hce hbe
                case measure => simp [intOf]; omega
              · go_wp2_with fail
                go_roundw
                case rel => exact ds_step hlt hz (by omega) hcd hbd
                case measure => simp [intOf]; omega
      · go_wp2_with fail
        refine (below_any _ _ _ hcr (by omega) (by omega)).mono ?_
        rintro e wa ⟨x, hx, rfl, hca, hga⟩
        have hba := below_curT hbr hga (Nat.le_refl _) hbr.size
        have hs2 : s.size ≤ 208 := by omega
        clear hga hx hcr hbr hs
        by_cases hx0 : x = 0
        · subst hx0
          go_wp2_with fail
          refine (pick_any _ wa.heap.size 6 [⟨#[32]⟩, ⟨#[32, 32]⟩, ⟨#[9]⟩, ⟨#[10]⟩, ⟨#[127]⟩, ⟨#[233]⟩] _ (hca.allocR _) (by omega) (by omega) (by have := hca.lt; omega) (by simp) ?_ ?_).mono ?_
          · intro k hk
            rw [World.cell?_alloc_new]
            match k, hk with
            | 0, _ => rfl
            | 1, _ => rfl
            | 2, _ => rfl
            | 3, _ => rfl
            | 4, _ => rfl
            | 5, _ => rfl
          · intro k hk
            match k, hk with
            | 0, _ => decide
            | 1, _ => decide
            | 2, _ => decide
            | 3, _ => decide
            | 4, _ => decide
            | 5, _ => decide
          · rintro e wb ⟨t, ht, rfl, hcb, hgb⟩
            have hbb := below_curT (hba.alloc hba.size _) hgb (Nat.le_refl _) (by have := hba.size; simp; omega)
            have HS := Lib.hid (show (s ++ t).size ≤ 65536 by rw [ByteArray.size_append]; omega)
            clear hgb hcb
            go_wp2_with fail
            go_ret
            exact HK.out _ _ HS.out hbb
        · have hx0' : ((x : Int) == 0) = false := by simp; omega
          by_cases hx1 : x = 1
          · subst hx1
            go_wp2_with fail
            refine (below_any _ _ _ hca (by omega) (by omega)).mono ?_
            rintro e wb ⟨y, hy, rfl, hcb, hgb⟩
            have hbb := below_curT hba hgb (Nat.le_refl _) hba.size
            have hy1 : y ≤ 1 := by omega
            clear hgb hy hca hba
            go_wp2_with fail
            refine (long_any _ (600 - s.size + y) _ 32 _ (by omega) (by decide) (by omega)).mono ?_
            rintro e wc ⟨t, ht, rfl, hgc⟩
            have hbc : Below w.heap.size w wc := hbb.trans (hgc.mono hbb.size)
            have ht1 : t.size ≤ 700 := by omega
            have HS := Lib.hid (show (s ++ t).size ≤ 65536 by rw [ByteArray.size_append]; omega)
            clear hgc hbb hcb ht
            go_wp2_with fail
            go_ret
            exact HK.out _ _ HS.out hbc
          · have hx1' : ((x : Int) == 1) = false := by simp; omega
            have HS := Lib.hid (show s.size ≤ 65536 by omega)
            go_wp2_with fail
            go_ret
            exact HK.out _ _ HS.out hba
  · go_wp2_with fail
    refine (below_any _ _ _ hc3 (by omega) (by omega)).mono ?_
    rintro e w4 ⟨y0, hy0, rfl, hc4, hg4⟩
    have hb4 := below_curT hb3 hg4 (Nat.le_refl _) hb3.size
    obtain ⟨m, hmy, hm⟩ : ∃ m : Nat, y0 + 24 = m ∧ m ≤ 26 := ⟨_, rfl, by omega⟩
    have hmI : (24 : Int) + (y0 : Int) = (m : Int) := by omega
    have hy1 : (y0 : Int) ≤ 1 := by omega
    clear hc3 hb3 hg4 hy0 hmy
    go_wp2_with fail
    clear hmI hy1
    go_loopw [5, 6] (fun u5 u6 wr => DsRel m w u5 u6 wr) (fun _ u6 _ => m - (intOf u6).toNat)
    case atStart => exact ⟨0, ⟨#[]⟩, Nat.zero_le _, rfl, rfl, by simp [ByteArray.size], hc4, hb4⟩
    case round =>
      obtain ⟨i, s, hi, rfl, rfl, hs, hcr, hbr⟩ := hrel
      clear hc4 hb4
      by_cases hlt : i < m
      · by_cases hi0 : 0 < i
        · go_wp2_with fail
          refine (below_any _ _ _ hcr (by omega) (by omega)).mono ?_
          rintro e wa ⟨x, hx, rfl, hca, hga⟩
          have hba := below_curT hbr hga (Nat.le_refl _) hbr.size
          have hx1 : x ≤ 1 := by omega
          clear hga hx hcr hbr
          go_wp2_with fail
          refine (below_any _ _ _ hca (by omega) (by omega)).mono ?_
          rintro e wb ⟨y, hy, rfl, hcb, hgb⟩
          have hbb := below_curT hba hgb (Nat.le_refl _) hba.size
          have hy1 : y ≤ 2 := by omega
          obtain ⟨p, hp, hp2⟩ : ∃ p : Nat, (x : Int) * (y : Int) = (p : Int) ∧ p ≤ 2 := by
            refine ⟨x * y, by simp, ?_⟩
            have := Nat.mul_le_mul hx1 hy1
            omega
          have HPm := Lib.hid hp
          have hp0 : (0 : Int) ≤ (x : Int) * (y : Int) := by omega
          have hpb : (x : Int) * (y : Int) ≤ 2 := by omega
          clear hgb hy hca hba hp
          go_wp2_with fail
          refine (long_any _ (1 + p) _ 32 _ (by have := HPm.out; omega) (by decide) (by omega)).mono ?_
          rintro e wc ⟨t, ht, rfl, hgc⟩
          have hbc : Below w.heap.size w wc := hbb.trans (hgc.mono hbb.size)
          have hcc := hcb.kept hgc hcb.lt
          have ht1 : t.size ≤ 3 := by omega
          have hs1 : (s ++ t).size ≤ 8 * i + 3 := by rw [ByteArray.size_append]; omega
          clear hgc hbb hcb ht
          go_wp2_with fail
          go_loopw [5, 7] (fun v5 v7 wx => InRel i w v5 v7 wx) (fun _ v7 _ => 5 - (intOf v7).toNat)
          case atStart => exact ⟨0, s ++ t, by omega, rfl, rfl, hs1, hcc, hbc⟩
          case round =>
            obtain ⟨k, z, hk, rfl, rfl, hz, hcx, hbx⟩ := hrel
            go_wp2_with fail
            refine (below_any _ _ _ hcx (by omega) (by omega)).mono ?_
            rintro e wd ⟨q, hq, rfl, hcd, hgd⟩
            have hbd := below_curT hbx hgd (Nat.le_refl _) hbx.size
            have hq4 : q ≤ 4 := by omega
            clear hgd hq hcx hbx
            by_cases hkq : k ≤ q
            · go_wp2_with fail
              refine (below_any _ _ _ hcd (by omega) (by omega)).mono ?_
              rintro e we ⟨r, hr, rfl, hce, hge⟩
              have hbe := below_curT hbd hge (Nat.le_refl _) hbd.size
              have hr1 : r ≤ 93 := by omega
              have hcv := conv_chr we r hr1
              clear hge hr hcd hbd
              go_wp2_with fail
              go_roundw
              case rel => exact in_step (by omega) hz hce hbe
              case measure => simp [intOf]; omega
            · go_wp2_with fail
              go_roundw
              case rel => exact ds_step hlt hz (by omega) hcd hbd
              case measure => simp [intOf]; omega
        · obtain rfl : i = 0 := by omega
          go_wp2_with fail
          refine (once_any _ _ _ hcr (by omega) (by omega)).mono ?_
          rintro e wz ⟨o2, rfl, hcz, hgz⟩
          have hbz := below_curT hbr hgz (Nat.le_refl _) hbr.size
          clear hgz hcr hbr
          cases o2
          · have hs1 : s.size ≤ 8 * 0 + 3 := by omega
            go_wp2_with fail
            go_loopw [5, 7] (fun v5 v7 wx => InRel 0 w v5 v7 wx) (fun _ v7 _ => 5 - (intOf v7).toNat)
            case atStart => exact ⟨0, s, by omega, rfl, rfl, hs1, hcz, hbz⟩
            case round =>
              obtain ⟨k, z, hk, rfl, rfl, hz, hcx, hbx⟩ := hrel
              go_wp2_with fail
              refine (below_any _ _ _ hcx (by omega) (by omega)).mono ?_
              rintro e wd ⟨q, hq, rfl, hcd, hgd⟩
              have hbd := below_curT hbx hgd (Nat.le_refl _) hbx.size
              have hq4 : q ≤ 4 := by omega
              clear hgd hq hcx hbx
              by_cases hkq : k ≤ q
              · go_wp2_with fail
                refine (below_any _ _ _ hcd (by omega) (by omega)).mono ?_
                rintro e we ⟨r, hr, rfl, hce, hge⟩
                have hbe := below_curT hbd hge (Nat.le_refl _) hbd.size
                have hr1 : r ≤ 93 := by omega
                have hcv := conv_chr we r hr1
                clear hge hr hcd hbd
                go_wp2_with fail
                go_roundw
                case rel => exact in_step (by omega) hz hce hbe
                case measure => simp [intOf]; omega
              · go_wp2_with fail
                go_roundw
                case rel => exact ds_step hlt hz (by omega) hcd hbd
                case measure => simp [intOf]; omega
          · go_wp2_with fail
            refine (below_any _ _ _ hcz (by omega) (by omega)).mono ?_
            rintro e wa ⟨x, hx, rfl, hca, hga⟩
            have hba := below_curT hbz hga (Nat.le_refl _) hbz.size
            have hx1 : x ≤ 1 := by omega
            clear hga hx hcz hbz
            go_wp2_with fail
            refine (below_any _ _ _ hca (by omega) (by omega)).mono ?_
            rintro e wb ⟨y, hy, rfl, hcb, hgb⟩
            have hbb := below_curT hba hgb (Nat.le_refl _) hba.size
            have hy1 : y ≤ 2 := by omega
            obtain ⟨p, hp, hp2⟩ : ∃ p : Nat, (x : Int) * (y : Int) = (p : Int) ∧ p ≤ 2 := by
              refine ⟨x * y, by simp, ?_⟩
              have := Nat.mul_le_mul hx1 hy1
              omega
            have HPm := Lib.hid hp
            have hp0 : (0 : Int) ≤ (x : Int) * (y : Int) := by omega
            have hpb : (x : Int) * (y : Int) ≤ 2 := by omega
            clear hgb hy hca hba hp
            go_wp2_with fail
            refine (long_any _ (1 + p) _ 32 _ (by have := HPm.out; omega) (by decide) (by omega)).mono ?_
            rintro e wc ⟨t, ht, rfl, hgc⟩
            have hbc : Below w.heap.size w wc := hbb.trans (hgc.mono hbb.size)
            have hcc := hcb.kept hgc hcb.lt
            have ht1 : t.size ≤ 3 := by omega
            have hs1 : (s ++ t).size ≤ 8 * 0 + 3 := by rw [ByteArray.size_append]; omega
            clear hgc hbb hcb ht
            go_wp2_with fail
            go_loopw [5, 7] (fun v5 v7 wx => InRel 0 w v5 v7 wx) (fun _ v7 _ => 5 - (intOf v7).toNat)
            case atStart => exact ⟨0, s ++ t, by omega, rfl, rfl, hs1, hcc, hbc⟩
            case round =>
              obtain ⟨k, z, hk, rfl, rfl, hz, hcx, hbx⟩ := hrel
              go_wp2_with fail
              refine (below_any _ _ _ hcx (by omega) (by omega)).mono ?_
              rintro e wd ⟨q, hq, rfl, hcd, hgd⟩
              have hbd := below_curT hbx hgd (Nat.le_refl _) hbx.size
              have hq4 : q ≤ 4 := by omega
              clear hgd hq hcx hbx
              by_cases hkq : k ≤ q
              · go_wp2_with fail
                refine (below_any _ _ _ hcd (by omega) (by omega)).mono ?_
                rintro e we ⟨r, hr, rfl, hce, hge⟩
                have hbe := below_curT hbd hge (Nat.le_refl _) hbd.size
                have hr1 : r ≤ 93 := by omega
                have hcv := conv_chr we r hr1
                clear hge hr hcd hbd
                go_wp2_with fail
                go_roundw
                case rel => exact in_step (by omega) hz hce hbe
                case measure => simp [intOf]; omega
              · go_wp2_with fail
                go_roundw
                case rel => exact ds_step hlt hz (by omega) hcd hbd
                case measure => simp [intOf]; omega
      · go_wp2_with fail
        refine (below_any _ _ _ hcr (by omega) (by omega)).mono ?_
        rintro e wa ⟨x, hx, rfl, hca, hga⟩
        have hba := below_curT hbr hga (Nat.le_refl _) hbr.size
        have hs2 : s.size ≤ 208 := by omega
        clear hga hx hcr hbr hs
        by_cases hx0 : x = 0
        · subst hx0
          go_wp2_with fail
          refine (pick_any _ wa.heap.size 6 [⟨#[32]⟩, ⟨#[32, 32]⟩, ⟨#[9]⟩, ⟨#[10]⟩, ⟨#[127]⟩, ⟨#[233]⟩] _ (hca.allocR _) (by omega) (by omega) (by have := hca.lt; omega) (by simp) ?_ ?_).mono ?_
          · intro k hk
            rw [World.cell?_alloc_new]
            match k, hk with
            | 0, _ => rfl
            | 1, _ => rfl
            | 2, _ => rfl
            | 3, _ => rfl
            | 4, _ => rfl
            | 5, _ => rfl
          · intro k hk
            match k, hk with
            | 0, _ => decide
            | 1, _ => decide
            | 2, _ => decide
            | 3, _ => decide
            | 4, _ => decide
            | 5, _ => decide
          · rintro e wb ⟨t, ht, rfl, hcb, hgb⟩
            have hbb := below_curT (hba.alloc hba.size _) hgb (Nat.le_refl _) (by have := hba.size; simp; omega)
            have HS := Lib.hid (show (s ++ t).size ≤ 65536 by rw [ByteArray.size_append]; omega)
            clear hgb hcb
            go_wp2_with fail
            go_ret
            exact HK.out _ _ HS.out hbb
        · have hx0' : ((x : Int) == 0) = false := by simp; omega
          by_cases hx1 : x = 1
          · subst hx1
            go_wp2_with fail
            refine (below_any _ _ _ hca (by omega) (by omega)).mono ?_
            rintro e wb ⟨y, hy, rfl, hcb, hgb⟩
            have hbb := below_curT hba hgb (Nat.le_refl _) hba.size
            have hy1 : y ≤ 1 := by omega
            clear hgb hy hca hba
            go_wp2_with fail
            refine (long_any _ (600 - s.size + y) _ 32 _ (by omega) (by decide) (by omega)).mono ?_
            rintro e wc ⟨t, ht, rfl, hgc⟩
            have hbc : Below w.heap.size w wc := hbb.trans (hgc.mono hbb.size)
            have ht1 : t.size ≤ 700 := by omega
            have HS := Lib.hid (show (s ++ t).size ≤ 65536 by rw [ByteArray.size_append]; omega)
            clear hgc hbb hcb ht
            go_wp2_with fail
            go_ret
            exact HK.out _ _ HS.out hbc
          · have hx1' : ((x : Int) == 1) = false := by simp; omega
            have HS := Lib.hid (show s.size ≤ 65536 by omega)
            go_wp2_with fail
            go_ret
            exact HK.out _ _ HS.out hba
end Go.Proofs.YtijpbjnghkkdeaaDoor.draw
