/- The contract of the program's firstEntries: the places at which a number is new, by a map of those that are missing. -/
import Derived.Test.YtgocbnnhhpmndaaEntO
import Derived.Test.YtgocbnnhhpmndaaSetH
namespace Go.Proofs.Ytgocbnnhhpmndaa.entI
open Go.ChangeShapes Go.WideShapes Go.ChangeAt Go.RowKit Go.Maps
open draw gridP gridC bitP mazeP mazeC mazeM intsP reachP reachM reachN reachD intA listK setI wayP ersP ersO entP entO
set_option linter.unusedVariables false

set_option maxRecDepth 100000 in
/-- A set is made in the next block. -/
theorem setOf_at (A : Option Addr) (n c : Nat) (l : List Int) (W : World) (hn : n = l.length) (hm : n ≤ 1048576) (hi : IntsIn W W.heap.size A l) (hr : ∀ u ∈ l, -9223372036854775808 ≤ u ∧ u ≤ 9223372036854775807) :
    Calls Try.prog 60 #[.slice A n c] W (fun e w' => e = .returned (.map (some W.heap.size)) ∧ SetR W.heap.size l.length l w' ∧ Below W.heap.size W w') := by
  have hmm : (Instr.makeMap 72 (some (.int .i64 (n : Int)))).run Try.prog W = .ok (.map (some W.heap.size)) (W.alloc (.map #[] 0)) := by
    simp [Instr.makeMap, go_sem]
  have HR := Lib.hid (sf_start hi)
  have Hr := Lib.hid hr
  have hn' : l.length = n := hn.symm
  have HN := Lib.hid hn'
  clear hi hn hr hn'
  go_enter Try.func60, Try.ntmps60
  go_wp2_with fail
  clear hmm
  go_loopw [11] (fun u11 wr => ∃ k : Nat, k ≤ n ∧ u11 = .int .i64 k ∧ SF W A l k wr) (fun u11 _ => n - (intOf u11).toNat)
  case atStart => exact ⟨0, Nat.zero_le _, rfl, HR.out⟩
  case round =>
    obtain ⟨k, hk, rfl, hsf0⟩ := hrel
    have hsf := Lib.hid hsf0
    clear hsf0 HR
    by_cases hkn : k < n
    · obtain ⟨u, hu, hmem⟩ : ∃ u, l[k]? = some u ∧ u ∈ l := by
        have hkl : k < l.length := by have := HN.out; omega
        exact ⟨l[k], List.getElem?_eq_getElem hkl, List.getElem_mem hkl⟩
      obtain ⟨ad, rfl, hab, hcell⟩ := ints_cell hsf.out.2.2 hu
      have hkey := Lib.hid (key_int (Hr.out u hmem))
      have hown := Lib.hid hsf.out.2.1
      have HNx := @Lib.hid _ (fun X' p1 p2 => @sf_step W wr X' (some ad) l k u hsf.out hu p1 p2)
      have hk0 : (0 : Int) ≤ (k : Int) := Int.natCast_nonneg _
      have hk1 : (k : Int) < (n : Int) := by omega
      clear hu hmem
      go_wp2_with (at_mapUpdate; refine wpList_mapUpdate_own _ rfl _ _ _ 72 rfl 3 4 lawI Try.underlying72 _ W.heap.size k _ rfl hown.out (by unfold maxLen; omega) _ _ _ rfl rfl hkey.out _ [] (plainElem_bool Try.underlying4 true) ?_; intro w1 hown1 hgrow1)
      go_roundw
      case rel => exact ⟨k + 1, by omega, by go_num, HNx.out _ hown1 hgrow1⟩
      case measure => (try simp [intOf]); omega
    · obtain rfl : k = n := by omega
      go_wp2_with fail
      go_ret
      have h1 := hsf.out.2.1
      rw [List.take_of_length_le (by have := HN.out; omega)] at h1
      exact ⟨rfl, by rw [HN.out]; exact h1, hsf.out.1⟩

/-- What the map of missing numbers reads as, behind the first k. -/
def Ms (D : DataW Unit) (L : List Int) (k : Nat) : Prop := ∀ u : Int, D.atKey (.int .i64 u) (.lit (.bool false)) = .lit (.bool (decide (u ∈ L ∧ u ∉ L.take k)))
theorem ms_new (L : List Int) : Ms (Sd L) L 0 := fun u => by
  rw [sd_at]; simp
theorem ms_old {D : DataW Unit} {L : List Int} {k : Nat} (h : Ms D L k) (hk : k < L.length) (hm : atN L k ∈ L.take k) : Ms D L (k + 1) := fun u => by
  rw [h u, take_one (at_some hk)]
  congr 3
  rw [eq_iff_iff]
  simp only [List.mem_append, List.mem_singleton, not_or]
  constructor
  · rintro ⟨h1, h2⟩; exact ⟨h1, h2, fun e => h2 (by rw [e]; exact hm)⟩
  · rintro ⟨h1, h2, -⟩; exact ⟨h1, h2⟩
theorem ms_del {D : DataW Unit} {L : List Int} {k : Nat} (h : Ms D L k) (hk : k < L.length) : Ms (D.del (.int .i64 (atN L k))) L (k + 1) := fun u => by
  rw [take_one (at_some hk)]
  by_cases e : u = atN L k
  · subst e
    rw [atKey_del_same]; simp
  · rw [atKey_del_other (fun h' => e (by injection h')), h u]
    simp [e]
/-- What stands while the entries are looked for. -/
def FE (W : World) (A : Option Addr) (n : Nat) (L : List Int) (k : Nat) (v : Value) (X : World) : Prop :=
  OL W (W.heap.size + 1) (fsL L k) v X ∧ IntsIn X W.heap.size A L ∧ ∃ D, X.ownsMap Try.prog 3 (plainElem Try.prog 4) W.heap.size n D ∧ Ms D L k
section
variable {W X X' : World} {A : Option Addr} {n k : Nat} {L : List Int} {v : Value}
theorem omap_low {b B : Nat} {D : DataW Unit} (h : X.ownsMap Try.prog 3 (plainElem Try.prog 4) b n D) (hb : Below B X X') (hlt : b < B) : X'.ownsMap Try.prog 3 (plainElem Try.prog 4) b n D := by
  obtain ⟨es, clock, hb', F, hs, hD⟩ := h
  exact ⟨es, clock, (hb.block _ hlt).trans hb', F, hs, hD⟩
theorem ol_turn {b B : Nat} {l : List Int} (h : OL W B l v X) (hg : X.grownBy X' (some b)) (h1 : W.heap.size ≤ b) (h2 : b < B) : OL W B l v X' := by
  obtain ⟨g1, g2, g3, g4⟩ := h
  refine ⟨g1.grown hg g1.size (fun j hj => by cases hj; exact h1), g2, Nat.le_trans g3 hg.size, g4.kept hg ?_⟩
  rcases g4.2 with ⟨rfl, _⟩ | ⟨q, cap, cur, rfl, hq, _⟩
  · exact .inl rfl
  · exact .inr fun e => by simp [Value.ownBlock] at e; omega
theorem fe_start (hi : IntsIn X W.heap.size A L) (hb : Below W.heap.size W X) (hs : SetR W.heap.size L.length L X) (hn : L.length = n) : FE W A n L 0 (.slice none 0 0) X := by
  subst hn
  exact ⟨ol_nil hb (Nat.le_succ _) hs.lt, hi, _, hs, ms_new L⟩
/-- A number that was there. -/
theorem FE.old (h : FE W A n L k v X) (hb : Below X.heap.size X X') (hk : k < L.length) (hm : atN L k ∈ L.take k) : FE W A n L (k + 1) v X' := by
  obtain ⟨h1, h2, D, h3, h4⟩ := h
  exact ⟨by rw [fs_in hm]; exact h1.call hb, h2.below (hb.mono h1.1.size), D, omap_low h3 hb h3.lt, ms_old h4 hk hm⟩
theorem FE.call (h : FE W A n L k v X) (hb : Below X.heap.size X X') : FE W A n L k v X' := by
  obtain ⟨h1, h2, D, h3, h4⟩ := h
  exact ⟨h1.call hb, h2.below (hb.mono h1.1.size), D, omap_low h3 hb h3.lt, h4⟩
/-- A new number: it is taken out .. -/
def FD (W : World) (A : Option Addr) (n : Nat) (L : List Int) (k : Nat) (v : Value) (X : World) : Prop :=
  OL W (W.heap.size + 1) (fsL L k) v X ∧ IntsIn X W.heap.size A L ∧ ∃ D, X.ownsMap Try.prog 3 (plainElem Try.prog 4) W.heap.size n D ∧ Ms D L (k + 1)
theorem fe_del {D : DataW Unit} (h1 : OL W (W.heap.size + 1) (fsL L k) v X) (h2 : IntsIn X W.heap.size A L) (h4 : Ms D L k) (hk : k < L.length)
    (ho : X'.ownsMap Try.prog 3 (plainElem Try.prog 4) W.heap.size n (D.del (.int .i64 (atN L k)))) (hg : X.grownBy X' (some W.heap.size)) : FD W A n L k v X' := by
  have h3 := ol_turn h1 hg (Nat.le_refl _) (Nat.lt_succ_self _)
  refine ⟨h3, h2.below ((Below.refl _ _).grown hg h1.1.size (fun j hj => by cases hj; exact Nat.le_refl _)), _, ho, ms_del h4 hk⟩
/-- .. and its place is kept. -/
theorem FD.app {gg cap : Nat} {o : Obj} (h : FD W A n L k v X) (hm : atN L k ∉ L.take k)
    (ho : X'.ownsRow (W.heap.size + 1) 3 1 (.slice (some ⟨gg, 0, none⟩) ((fsL L k).length + 1) cap) ((fsL L k).length + 1) (icells (fsL L k) ++ icells [(k : Int)])) (hg : (X.alloc o).grownBy X' v.ownBlock) :
    FE W A n L (k + 1) (.slice (some ⟨gg, 0, none⟩) ((fsL L k).length + 1) cap) X' := by
  obtain ⟨h1, h2, D, h3, h4⟩ := h
  obtain ⟨n1, n2⟩ := h1.app ho hg
  exact ⟨by rw [fs_out hm]; exact n1, IntsIn.low h2 (Nat.le_succ _) n2, D, omap_low h3 n2 (Nat.lt_succ_self _), h4⟩
end

/-- Whether a set has a number, where the map's look-up is known. -/
theorem has_at (b n : Nat) (D : DataW Unit) (v : Bool) (u : Int) (W : World) (hs : W.ownsMap Try.prog 3 (plainElem Try.prog 4) b n D) (hat : D.atKey (.int .i64 u) (.lit (.bool false)) = .lit (.bool v)) (hu : -9223372036854775808 ≤ u ∧ u ≤ 9223372036854775807) :
    Calls Try.prog 61 #[.map (some b), .int .i64 u] W (Bl v W) := by
  have HK := @Lib.hid _ (fun w' h => @bl_mk v v W w' rfl h)
  have hl := lookup_bool hs lawI Try.underlying72 Try.underlying4 (zeroB _) (key_int hu) hat
  have HR := Lib.hid (Below.refl W.heap.size W)
  clear hs hat
  go_enter Try.func61, Try.ntmps61
  go_wp2_with fail
  go_ret
  exact HK.out _ HR.out

set_option maxRecDepth 100000 in
set_option maxHeartbeats 1000000 in
theorem firstEntries_any (A : Option Addr) (n c : Nat) (L : List Int) (W : World) (hn : L.length = n) (hm : n ≤ 1048576) (hi : IntsIn W W.heap.size A L) (hr : ∀ u ∈ L, -9223372036854775808 ≤ u ∧ u ≤ 9223372036854775807) :
    Calls Try.prog 34 #[.slice A n c] W (Ints (fsL L n) W) := by
  obtain ⟨i0, hi0, hz0, hz1, hz2⟩ := info_parts info_int
  have HK := @Lib.hid _ (fun w' v n' base => @ints_mk (fsL L n) W w' v n' base)
  have HS := Lib.hid (setOf_at A n c L W hn.symm hm hi hr)
  have HSt := Lib.hid (fun X h1 h2 h3 => @fe_start W X A n L h1 h2 h3 hn)
  have HI := Lib.hid hi
  have Hr := Lib.hid hr
  have Hn := Lib.hid hn
  clear hi hn hr
  go_enter Try.func34, Try.ntmps34
  go_wp2_with fail
  refine HS.out.mono ?_
  rintro e w1 ⟨rfl, hs, hb⟩
  have hfe1 := Lib.hid (HSt.out w1 (HI.out.below hb) hb hs)
  clear hs hb HS HSt HI
  go_wp2_with fail
  go_loopw [4, 11] (fun u4 u11 wr => ∃ k : Nat, k ≤ n ∧ u11 = .int .i64 (k : Int) ∧ FE W A n L k u4 wr) (fun _ u11 _ => n - (intOf u11).toNat)
  case atStart => exact ⟨0, Nat.zero_le _, rfl, hfe1.out⟩
  case round =>
    clear hfe1
    obtain ⟨k, hk, rfl, hfe0⟩ := hrel
    have hfe := Lib.hid hfe0
    obtain ⟨A4, c4, rfl⟩ := hfe0.1.form
    have hsz := hfe0.1.2.2.1
    have hk0 : (0 : Int) ≤ (k : Int) := Int.natCast_nonneg _
    by_cases hkn : k < n
    · have hkl : k < L.length := by have := Hn.out; omega
      obtain ⟨ad, rfl, hab, hcell⟩ := ints_cell hfe0.2.1 (at_some hkl)
      have hk1 : (k : Int) < (n : Int) := by omega
      obtain ⟨D, ho0, hms0⟩ := hfe0.2.2
      have Hms := Lib.hid hms0
      have Ho := Lib.hid ho0
      have Hru := Lib.hid (Hr.out (atN L k) (at_mem hkl))
      have Hkl := Lib.hid hkl
      have hat := hms0 (atN L k)
      have hfl : (fsL L k).length ≤ k := by rw [fs_len]; exact fr_le L k
      clear hfe0 ho0 hms0
      by_cases hin : atN L k ∈ L.take k
      · rw [decide_eq_false (fun h => h.2 hin)] at hat
        have HHas := Lib.hid (has_at W.heap.size n D false (atN L k) wr Ho.out hat Hru.out)
        have HOld := Lib.hid (fun X' hb => @FE.old W wr X' (some ad) n k L _ hfe.out hb hkl hin)
        clear hin hat hkl Hms Ho
        generalize atN L k = u at *
        go_wp2_with fail
        refine HHas.out.mono ?_
        rintro e w2 ⟨rfl, hb⟩
        have hfe2 := Lib.hid (HOld.out _ hb)
        clear hb
        go_wp2_with fail
        go_roundw
        case rel => exact ⟨k + 1, by omega, by go_num, hfe2.out⟩
        case measure => (try simp [intOf]); omega
      · rw [decide_eq_true ⟨at_mem hkl, hin⟩] at hat
        have HHas := Lib.hid (has_at W.heap.size n D true (atN L k) wr Ho.out hat Hru.out)
        have Hin := Lib.hid hin
        have hkey := Lib.hid (key_int Hru.out)
        clear hin hat hkl
        go_wp2_with fail
        refine HHas.out.mono ?_
        rintro e w2 ⟨rfl, hb⟩
        have h1 := Lib.hid (hfe.out.1.call hb)
        have h2 := Lib.hid (hfe.out.2.1.below (hb.mono hfe.out.1.1.size))
        have ho2 := Lib.hid (omap_low Ho.out hb Ho.out.lt)
        have HDel := Lib.hid (fun X' a b => @fe_del W w2 X' (some ad) n k L _ D h1.out h2.out Hms.out Hkl.out a b)
        have HApp := Lib.hid (fun X X' v gg cap o (h : FD W (some ad) n L k v X) a b => @FD.app W X X' (some ad) n k L v gg cap o h Hin.out a b)
        clear hb hfe Ho hcell hsz HHas
        generalize hfs : fsL L k = F at *
        have hfs' := Lib.hid hfs
        clear hfs
        go_wp2_with (first
          | (at_delete; refine wpList_delete_own _ rfl _ _ 72 3 rfl 4 lawI Try.underlying72 _ W.heap.size n _ rfl ho2.out _ _ rfl hkey.out ?_; intro w3 hown1 hturn1; have hfd := Lib.hid (HDel.out _ hown1 hturn1.grown); clear hown1 hturn1; have hol := Lib.hid hfd.out.1; rw [hfs'.out] at hol; have hsz := hol.out.2.2.1)
          | (at_builtin; refine wpList_append_lies _ rfl (.tmp 21) (.tmp 23) 26 rfl (W.heap.size + 1) 3 i0 _ 1 8 Try.underlying26 hi0 hz0 hz1 hz2 rfl (by omega) _ F.length _ rfl (hol.out.2.2.2.alloc _) ⟨w3.heap.size, 0, none⟩ 1 1 (icells [(k : Int)]) rfl rfl (news_eqI rfl (heap_alloc_new w3 _)) (oneCellI _) (by omega) (by unfold maxLen; omega) (by omega) (by simp; omega) (w3.heap.size + 1) (by simp) ?_; intro gg cap w4 hown' hgrow hat hlt2; clear hat hlt2; have hfe4 := Lib.hid (HApp.out w3 w4 _ gg cap _ hfd.out hown' hgrow); clear hown' hgrow))
        go_roundw
        case rel => exact ⟨k + 1, by omega, by go_num, hfe4.out⟩
        case measure => (try simp [intOf]); omega
    · obtain rfl : k = n := by omega
      clear hfe0
      go_wp2_with fail
      go_ret
      exact HK.out _ _ _ _ rfl hfe.out.1.2.2.2 hfe.out.1.2.1 hfe.out.1.1
end Go.Proofs.Ytgocbnnhhpmndaa.entI
