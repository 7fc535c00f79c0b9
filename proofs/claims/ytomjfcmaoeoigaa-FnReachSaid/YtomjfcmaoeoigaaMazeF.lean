/- The draw of a tree of passages answers a valid maze of the grid, and changes the cursor alone. -/
import Derived.Test.YtomjfcmaoeoigaaMazeE
import Derived.Test.YtomjfcmaoeoigaaMazeR
import Derived.Test.YtomjfcmaoeoigaaGridU
namespace Go.Proofs.Ytomjfcmaoeoigaa.mazeE
open Go.ChangeShapes Go.WideShapes Go.ChangeAt Go.RowKit
open draw gridP gridC gridE bitP mazeP mazeC mazeM mazeR intsP
set_option linter.unusedVariables false

theorem common_last (n : Nat) : cmB (n + 1) n = false := by
  have h : Nat.gcd (n + 1) n = 1 := by simp
  unfold cmB
  rw [h]
  rfl
/-- One gap more is open: still a maze of the grid. -/
theorem or_top {z t G T : Int} (hT : T = 2 ^ G.toNat - 1) (h0 : 0 ≤ z) (h1 : z ≤ T) (t0 : 0 ≤ t) (t1 : t < G) (hG : G ≤ 24) : 0 ≤ bits .or .i64 z (wrap64 (2 ^ t.toNat)) ∧ bits .or .i64 z (wrap64 (2 ^ t.toNat)) ≤ T := by
  have hb := pow_bd t (by omega)
  have hg := pow_bd G hG
  subst hT
  rw [IntWalk.wrap64_in _ (by omega), or_is h0 (by omega) t0 (by omega)]
  have hp := (put_bd h0 t0 t1 hG h1).2
  split
  · exact ⟨h0, h1⟩
  · rename_i hne
    exact ⟨by omega, hp hne⟩

/-- What is answered, out of the growing maze. -/
theorem tree_end {w X Y : World} {g n : Nat} {v : Value} {x y z : Int} (h : TS w g v n x y X) (hlt : g < w.heap.size) (hz : 0 ≤ z ∧ z ≤ topZ x y)
    (hY : Y = ((X.setCell ⟨w.heap.size + 1, 0, none⟩ (.int .i64 x)).setCell ⟨w.heap.size + 1, 1, none⟩ (.int .i64 y)).setCell ⟨w.heap.size + 1, 2, none⟩ (.int .i64 z)) :
    DrawnM x y g w (.returned (.agg #[.int .i64 x, .int .i64 y, .int .i64 z])) Y := by
  subst hY
  obtain ⟨a, b⟩ := h.done hlt (.int .i64 x) (.int .i64 y) (.int .i64 z)
  exact drawnM_mk hz a b

set_option maxRecDepth 100000 in
set_option maxHeartbeats 4000000 in
theorem tree_any (g : Nat) (x y : Int) (w : World) (hc : Cur w g) (h1 : 1 ≤ x) (h2 : x ≤ 4) (h3 : 1 ≤ y) (h4 : y ≤ 4) :
    Calls Try.prog 39 #[.pointer (some ⟨g, 0, none⟩), .agg #[.int .i64 x, .int .i64 y]] w (DrawnM x y g w) := by
  obtain ⟨i0, hi0, hz0, hz1, hz2⟩ := info_parts info_int
  have hlt := hc.lt
  obtain ⟨q0, q1⟩ := gps_bd h1 h2 h3 h4
  obtain ⟨⟨n0, n1⟩, -, -⟩ := mul_bd x y h1 h2 h3 h4
  have htop := top_bd h1 h2 h3 h4
  have HG : Hid (∀ X, Calls Try.prog 40 #[.agg #[.int .i64 x, .int .i64 y]] X (Nm (gpsZ x y) X)) := fun X => gridS.countGaps_yes x y X h1 h2 h3 h4
  have HC : Hid (∀ X, Calls Try.prog 16 #[.agg #[.int .i64 x, .int .i64 y]] X (Nm (x * y) X)) := fun X => gridS.countCells_yes x y X h1 h2 h3 h4
  have HE := Lib.hid (fun t X => gridS.endsOf_any x y t X)
  have HI := @Lib.hid _ (fun t a b => @ends_in x y t h1 h2 h3 h4 a b)
  have HD := @Lib.hid _ (fun X Y n v z a b c => @tree_end w X Y g n v x y z a hlt b c)
  have HP := @Lib.hid _ (fun z t a b c d => @or_top z t (gpsZ x y) (topZ x y) rfl a b c d q1)
  have T0 := @Lib.hid _ (fun T T' T'' => @ts_start w g x y hc htop.1 T T' T'')
  obtain ⟨G, hG⟩ := Int.eq_ofNat_of_zero_le q0
  obtain ⟨N, hN⟩ := Int.eq_ofNat_of_zero_le (show 0 ≤ x * y by omega)
  rw [hG] at HG HP q1
  rw [hG] at HI
  rw [hN] at HC HI n0 n1
  have hG24 : G ≤ 24 := by omega
  have hN16 : N ≤ 16 := by omega
  have hN1 : 1 ≤ N := by omega
  clear hG hN q0 q1 n0 n1
  go_enter Try.func39, Try.ntmps39
  go_wp2_with fail
  refine (HG.out _).mono ?_
  rintro e w1 ⟨rfl, hb⟩
  have ts1 := Lib.hid ((T0.out _ _ _).below hb)
  clear hb T0
  obtain ⟨⟨c0, c1⟩, -⟩ := ts1.out.parts
  go_wp2_with fail
  refine (HC.out _).mono ?_
  rintro e w2 ⟨rfl, hb⟩
  have ts2 := Lib.hid (ts1.out.below hb)
  have hs2 := ts2.out.size
  have ts3 := Lib.hid (ts2.out.make (n := N) (by unfold maxLen; omega) hs2)
  have hmk := run_make (P := Try.prog) w2 33 3 i0 (.int .i64 0) Try.underlying33 hi0 hz0 .i64 .i64 (N : Int) (N : Int) (by omega) (by omega) (by rw [hz2]; omega) (by omega)
  rw [hz1] at hmk
  simp only [Int.toNat_natCast, Nat.mul_one] at hmk
  clear hb ts1 ts2 c0 c1
  go_wp2_with fail
  clear hmk
  go_loopw [8] (fun u8 wr => ∃ k : Nat, k ≤ N ∧ u8 = .int .i64 k ∧ TS w g (.slice (some ⟨w2.heap.size, 0, none⟩) N N) N x y wr) (fun u8 _ => N - (intOf u8).toNat)
  case atStart => exact ⟨0, Nat.zero_le _, rfl, ts3.out⟩
  case round =>
    obtain ⟨k, hk, rfl, hts0⟩ := hrel
    have hts := Lib.hid hts0
    clear hts0 ts3
    by_cases hkN : k < N
    · obtain ⟨⟨u, cu⟩, fu⟩ := hts.out.cell k hkN
      have HN := Lib.hid (hts.out.part hlt hs2 hkN k)
      have hk0 : (0 : Int) ≤ (k : Int) := Int.natCast_nonneg _
      have hk1 : (k : Int) < (N : Int) := by omega
      go_wp2_with fail
      go_roundw
      case rel => exact ⟨k + 1, by omega, by go_num, HN.out⟩
      case measure => simp [intOf]; omega
    · obtain rfl : k = N := by omega
      by_cases hG0 : G = 0
      · subst hG0
        obtain ⟨-, ⟨⟨b0, b1, b2⟩, fb0, fb1, fb2⟩, z, hz, ⟨d0, d1, d2⟩, fd0, fd1, fd2⟩ := hts.out.parts
        have HZ := Lib.hid hz
        clear hz
        go_wp2_with fail
        refine ret_set3 b0 b1 b2 fun Y e0 e1 e2 hY => ?_
        exact bodyPost_ret (v := .agg #[.int .i64 x, .int .i64 y, .int .i64 z]) (by simp [results, Try.results39, go_sem, e0, e1, e2]) rfl (HD.out _ _ _ _ _ hts.out HZ.out hY)
      · have hG1 : 1 ≤ G := by omega
        have hGz : ((G : Int) == 0) = false := by simp; omega
        clear hG0
        go_wp2_with fail
        refine (below_any g _ _ hts.out.cur (by omega) (by omega)).mono ?_
        rintro e w3 ⟨f, hf, rfl, hc3, hg3⟩
        have ts4 := Lib.hid (hts.out.draw hlt hc3 hg3)
        clear hts hc3 hg3
        go_wp2_with fail
        refine (below_any g _ _ ts4.out.cur (by omega) (by omega)).mono ?_
        rintro e w4 ⟨st, hst, rfl, hc4, hg4⟩
        have ts5 := Lib.hid (ts4.out.draw hlt hc4 hg4)
        clear ts4 hc4 hg4
        go_wp2_with fail
        go_loopw [10] (fun u10 wr => ∃ s : Nat, (1 ≤ s ∧ s ≤ G + 1) ∧ u10 = .int .i64 s ∧ TS w g (.slice (some ⟨w2.heap.size, 0, none⟩) k k) k x y wr) (fun u10 _ => G + 1 - (intOf u10).toNat)
        case atStart => exact ⟨1 + st, by omega, by rw [show ((1 + st : Nat) : Int) = 1 + (st : Int) from by omega], ts5.out⟩
        case round =>
          obtain ⟨s, hs, rfl, hts0⟩ := hrel
          have hts := Lib.hid hts0
          have HCm := Lib.hid (fun X => common_any s G X (by omega) (by omega))
          clear hts0 ts5
          by_cases hcm : cmB s G = true
          · have hs' : s ≠ G + 1 := by
              rintro rfl
              rw [common_last] at hcm
              cases hcm
            unfold CmPost at HCm
            rw [hcm] at HCm
            clear hcm
            go_wp2_with fail
            refine (HCm.out _).mono ?_
            rintro e w5 ⟨rfl, d, rfl⟩
            go_wp2_with fail
            go_roundw
            case rel => exact ⟨s + 1, by omega, by go_num, hts.out.drewN d⟩
            case measure => simp [intOf]; omega
          · have hcm' : cmB s G = false := by simpa using hcm
            unfold CmPost at HCm
            rw [hcm'] at HCm
            clear hcm hcm'
            go_wp2_with fail
            refine (HCm.out _).mono ?_
            rintro e w5 ⟨rfl, d, rfl⟩
            go_wp2_with fail
            have ts6 := Lib.hid (hts.out.drewN d)
            clear hts HCm
            go_loopw [11] (fun u11 wr => ∃ i : Nat, i ≤ G ∧ u11 = .int .i64 i ∧ TS w g (.slice (some ⟨w2.heap.size, 0, none⟩) k k) k x y wr) (fun u11 _ => G - (intOf u11).toNat)
            case atStart => exact ⟨0, Nat.zero_le _, rfl, ts6.out⟩
            case round =>
              obtain ⟨i, hi, rfl, hts0⟩ := hrel
              have hts := Lib.hid hts0
              clear hts0 ts6
              by_cases hiG : i < G
              · have hm0 : i * s ≤ 24 * 25 := Nat.mul_le_mul (by omega) (by omega)
                obtain ⟨m, hm⟩ : ∃ m : Nat, (i : Int) * (s : Int) = m := ⟨i * s, by simp⟩
                have hm1 : m ≤ 600 := by
                  have : ((i * s : Nat) : Int) = m := by simpa using hm
                  omega
                obtain ⟨t, ht⟩ : ∃ t : Int, ((f : Int) + (m : Int)) % (G : Int) = t := ⟨_, rfl⟩
                have t0 : 0 ≤ t := by rw [← ht]; exact Int.emod_nonneg _ (by omega)
                have t1 : t < G := by rw [← ht]; exact Int.emod_lt_of_pos _ (by omega)
                have hends := HI.out t t0 t1
                have HEt := Lib.hid (HE.out t)
                obtain ⟨A, hA⟩ := Int.eq_ofNat_of_zero_le hends.1.1
                obtain ⟨B, hB⟩ := Int.eq_ofNat_of_zero_le hends.2.1
                rw [hA, hB] at hends HEt
                have hAk : A < k := by omega
                have hBk : B < k := by omega
                clear hends hA hB hm0
                obtain ⟨⟨c0, c1⟩, -⟩ := hts.out.parts
                go_wp2_with fail
                refine (HEt.out _).mono ?_
                rintro e w6 ⟨rfl, hb⟩
                have ts7 := Lib.hid (hts.out.below hb)
                clear hb hts c0 c1 hm HEt
                obtain ⟨⟨ua, ca⟩, fa⟩ := ts7.out.cell A hAk
                obtain ⟨⟨ub, cb⟩, fb⟩ := ts7.out.cell B hBk
                have iA0 : (0 : Int) ≤ (A : Int) := Int.natCast_nonneg _
                have iA1 : (A : Int) < (k : Int) := by omega
                have iB0 : (0 : Int) ≤ (B : Int) := Int.natCast_nonneg _
                have iB1 : (B : Int) < (k : Int) := by omega
                by_cases hab : ua = ub
                · have hab' : (ua == ub) = true := by simpa using hab
                  clear hab
                  go_wp2_with fail
                  go_quiet (fail)
                  go_wp2_with fail
                  go_roundw
                  case rel => exact ⟨i + 1, by omega, by go_num, ts7.out.drewN _⟩
                  case measure => simp [intOf]; omega
                · have hab' : (ua == ub) = false := by simpa using hab
                  clear hab
                  obtain ⟨-, -, z, hz, ⟨d0, d1, d2⟩, fd0, fd1, fd2⟩ := ts7.out.parts
                  have HO := @Lib.hid _ (fun X (h : TS w g (.slice (some ⟨w2.heap.size, 0, none⟩) k k) k x y X) => h.open hlt (HP.out z t hz.1 hz.2 t0 t1))
                  clear hz
                  go_wp2_with fail
                  go_quiet (fail)
                  go_wp2_with fail
                  clear ht
                  go_region
                  go_wp2_with fail
                  go_loopw [16] (fun u16 wr => ∃ j : Nat, j ≤ k ∧ u16 = .int .i64 j ∧ TS w g (.slice (some ⟨w2.heap.size, 0, none⟩) k k) k x y wr) (fun u16 _ => k - (intOf u16).toNat)
                  case atStart => exact ⟨0, Nat.zero_le _, rfl, HO.out _ ((ts7.out.drewN _).drewN 1)⟩
                  case round =>
                    obtain ⟨j, hj, rfl, hts0⟩ := hrel
                    have hts := Lib.hid hts0
                    clear hts0 ts7 ca fa cb fb d0 d1 d2 fd0 fd1 fd2
                    by_cases hjk : j < k
                    · obtain ⟨⟨uj, cj⟩, fj⟩ := hts.out.cell j hjk
                      obtain ⟨⟨va, cva⟩, fva⟩ := hts.out.cell A hAk
                      have iJ0 : (0 : Int) ≤ (j : Int) := Int.natCast_nonneg _
                      have iJ1 : (j : Int) < (k : Int) := by omega
                      have HN := Lib.hid (hts.out.part hlt hs2 hjk va)
                      by_cases hjb : uj = ub
                      · have hjb' : (uj == ub) = true := by simpa using hjb
                        clear hjb
                        go_wp2_with fail
                        go_roundw
                        case rel => exact ⟨j + 1, by omega, by go_num, HN.out⟩
                        case measure => simp [intOf]; omega
                      · have hjb' : (uj == ub) = false := by simpa using hjb
                        clear hjb
                        go_wp2_with fail
                        go_roundw
                        case rel => exact ⟨j + 1, by omega, by go_num, hts.out⟩
                        case measure => simp [intOf]; omega
                    · go_wp2_with fail
                      go_roundw
                      case rel => exact ⟨i + 1, by omega, by go_num, hts.out⟩
                      case measure => simp [intOf]; omega
              · obtain rfl : i = G := by omega
                obtain ⟨-, ⟨⟨b0, b1, b2⟩, fb0, fb1, fb2⟩, z, hz, ⟨d0, d1, d2⟩, fd0, fd1, fd2⟩ := hts.out.parts
                have HZ := Lib.hid hz
                clear hz
                go_wp2_with fail
                refine ret_set3 b0 b1 b2 fun Y e0 e1 e2 hY => ?_
                exact bodyPost_ret (v := .agg #[.int .i64 x, .int .i64 y, .int .i64 z]) (by simp [results, Try.results39, go_sem, e0, e1, e2]) rfl (HD.out _ _ _ _ _ hts.out HZ.out hY)
end Go.Proofs.Ytomjfcmaoeoigaa.mazeE
