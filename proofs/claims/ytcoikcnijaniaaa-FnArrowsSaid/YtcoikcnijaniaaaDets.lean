/- Determinants, without the program: expanding a row is a contraction; contractions anticommute. A list of rows begins with the last one. -/
import Derived.Test.YtcoikcnijaniaaaForest
import Derived.Test.YtcoikcnijaniaaaDeads
import Derived.RowKit

namespace Go.Proofs.Ytcoikcnijaniaaa.detP
set_option linter.unusedVariables false

/-- A sign. -/
def sg : Nat → Int
  | 0 => 1
  | n + 1 => - sg n
theorem sg_sq : ∀ n, sg n * sg n = 1
  | 0 => rfl
  | n + 1 => by have := sg_sq n; unfold sg; rw [Int.neg_mul_neg]; exact this
theorem sg_add : ∀ m n, sg (m + n) = sg m * sg n
  | 0, n => by simp [sg]
  | m + 1, n => by rw [show m + 1 + n = (m + n) + 1 by omega]; simp only [sg]; rw [sg_add m n, Int.neg_mul]
/-- A row is expanded: each column of the list is left out once. -/
def io (r : Nat → Int) (f : List Nat → Int) : List Nat → Int
  | [] => 0
  | c :: cs => sg cs.length * r c * f cs + io r (fun l => f (c :: l)) cs
theorem io_addf (r : Nat → Int) : ∀ (cs : List Nat) (f g : List Nat → Int), io r (fun l => f l + g l) cs = io r f cs + io r g cs
  | [], _, _ => rfl
  | c :: cs, f, g => by
    unfold io
    rw [io_addf r cs (fun l => f (c :: l)) (fun l => g (c :: l)), Int.mul_add]; omega
theorem io_mulf (r : Nat → Int) (z : Int) : ∀ (cs : List Nat) (f : List Nat → Int), io r (fun l => z * f l) cs = z * io r f cs
  | [], _ => by simp [io]
  | c :: cs, f => by
    unfold io
    rw [io_mulf r z cs (fun l => f (c :: l)), Int.mul_add, Int.mul_left_comm]
theorem io_add (r q : Nat → Int) : ∀ (cs : List Nat) (f : List Nat → Int), io (fun c => r c + q c) f cs = io r f cs + io q f cs
  | [], _ => rfl
  | c :: cs, f => by
    unfold io
    rw [io_add r q cs (fun l => f (c :: l)), Int.mul_add, Int.add_mul]; omega
theorem io_mul (z : Int) (r : Nat → Int) : ∀ (cs : List Nat) (f : List Nat → Int), io (fun c => z * r c) f cs = z * io r f cs
  | [], _ => by simp [io]
  | c :: cs, f => by
    unfold io
    rw [io_mul z r cs (fun l => f (c :: l)), Int.mul_add, Int.mul_left_comm (sg cs.length) z, Int.mul_assoc z]
/-- Only the entries in the columns count, and lists that are one shorter. -/
theorem io_congr {r q : Nat → Int} : ∀ {cs : List Nat} {f g : List Nat → Int}, (∀ c ∈ cs, r c = q c) → (∀ l, l.length + 1 = cs.length → (∀ c ∈ l, c ∈ cs) → f l = g l) → io r f cs = io q g cs
  | [], _, _, _, _ => rfl
  | c :: cs, f, g, h, h' => by
    unfold io
    rw [h c (by simp), h' cs rfl (fun d hd => by simp [hd]), io_congr (cs := cs) (f := fun l => f (c :: l)) (g := fun l => g (c :: l)) (fun d hd => h d (by simp [hd])) (fun l hl hc => h' (c :: l) (by simp; omega) (fun d hd => by
      rcases List.mem_cons.1 hd with e | e
      · simp [e]
      · simp [hc d e]))]
theorem io_sign (r : Nat → Int) (f : List Nat → Int) (cs : List Nat) : io r (fun l => sg l.length * f l) cs = - sg cs.length * io r f cs := by
  cases cs with
  | nil => simp [io]
  | cons c cs =>
    rw [io_congr (r := r) (q := r) (g := fun l => sg cs.length * f l) (fun _ _ => rfl) (fun l hl _ => by rw [show l.length = cs.length by simp at hl; omega]), io_mulf]
    simp [sg]
/-- Contractions anticommute. -/
theorem io_anti (r q : Nat → Int) : ∀ (cs : List Nat) (f : List Nat → Int), io r (io q f) cs = - io q (io r f) cs
  | [], _ => rfl
  | c :: cs, f => by
    have key : ∀ r q : Nat → Int, io r (io q f) (c :: cs) = sg cs.length * r c * io q f cs + (q c * (- sg cs.length * io r f cs) + io r (io q (fun l => f (c :: l))) cs) := fun r q => by
      show sg cs.length * r c * io q f cs + io r (fun l => sg l.length * q c * f l + io q (fun l' => f (c :: l')) l) cs = _
      rw [io_addf r cs (fun l => sg l.length * q c * f l), io_congr (r := r) (q := r) (f := fun l => sg l.length * q c * f l) (g := fun l => q c * (sg l.length * f l)) (fun _ _ => rfl) (fun l _ _ => by rw [← Int.mul_assoc, Int.mul_comm (sg l.length)]), io_mulf, io_sign]
    rw [key r q, key q r, io_anti r q cs (fun l => f (c :: l))]
    have e1 : sg cs.length * r c * io q f cs = - (r c * (- sg cs.length * io q f cs)) := by rw [Int.neg_mul, Int.mul_neg, Int.neg_neg, ← Int.mul_assoc, Int.mul_comm (r c)]
    have e2 : sg cs.length * q c * io r f cs = - (q c * (- sg cs.length * io r f cs)) := by rw [Int.neg_mul, Int.mul_neg, Int.neg_neg, ← Int.mul_assoc, Int.mul_comm (q c)]
    rw [e1, e2]; omega
theorem io_same (r : Nat → Int) (f : List Nat → Int) (cs : List Nat) : io r (io r f) cs = 0 := by have := io_anti r r cs f; omega
/-- A row that is 0 but in the last column. -/
theorem io_last {r : Nat → Int} {j : Nat} : ∀ {xs : List Nat} {f : List Nat → Int}, (∀ c ∈ xs, r c = 0) → io r f (xs ++ [j]) = r j * f xs
  | [], f, _ => by simp [io, sg]
  | c :: xs, f, h => by
    show sg _ * r c * f (xs ++ [j]) + io r (fun l => f (c :: l)) (xs ++ [j]) = _
    rw [h c (by simp), io_last (xs := xs) (fun d hd => h d (by simp [hd]))]; simp
/-- A row that is 0 but in one column. -/
theorem io_unit {r : Nat → Int} {j : Nat} {ys : List Nat} (hy : ∀ c ∈ ys, r c = 0) : ∀ {xs : List Nat} {f : List Nat → Int}, (∀ c ∈ xs, r c = 0) → io r f (xs ++ j :: ys) = sg ys.length * r j * f (xs ++ ys)
  | [], f, _ => by
    have h0 : ∀ (ys : List Nat) (f : List Nat → Int), (∀ c ∈ ys, r c = 0) → io r f ys = 0 := by
      intro ys
      induction ys with
      | nil => intro f _; rfl
      | cons d ys ih => intro f h; unfold io; rw [h d (by simp), ih _ (fun c hc => h c (by simp [hc]))]; simp
    show sg _ * r j * f ys + io r (fun l => f (j :: l)) ys = _
    rw [h0 ys _ hy]; simp
  | c :: xs, f, h => by
    show sg _ * r c * f (xs ++ j :: ys) + io r (fun l => f (c :: l)) (xs ++ j :: ys) = _
    rw [h c (by simp), io_unit hy (xs := xs) (fun d hd => h d (by simp [hd]))]; simp

/-- The determinant of rows (the last one first) at columns. -/
def dt : List (Nat → Int) → List Nat → Int
  | [] => fun _ => 1
  | r :: rs => io r (dt rs)
theorem dt_congr : ∀ {ps : List ((Nat → Int) × (Nat → Int))} {cs : List Nat}, (∀ p ∈ ps, ∀ c ∈ cs, p.1 c = p.2 c) → dt (ps.map (·.1)) cs = dt (ps.map (·.2)) cs
  | [], _, _ => rfl
  | p :: ps, cs, h => io_congr (h p (by simp)) fun m _ hm => dt_congr fun q hq c hc => h q (by simp [hq]) c (hm c hc)
theorem dt_add (r q : Nat → Int) : ∀ (l m : List (Nat → Int)) (cs : List Nat), dt (l ++ (fun c => r c + q c) :: m) cs = dt (l ++ r :: m) cs + dt (l ++ q :: m) cs
  | [], m, cs => io_add r q cs _
  | p :: l, m, cs => by
    show io p (dt (l ++ _ :: m)) cs = io p (dt (l ++ r :: m)) cs + io p (dt (l ++ q :: m)) cs
    rw [← io_addf]
    exact io_congr (fun _ _ => rfl) fun k _ _ => dt_add r q l m k
theorem dt_mul (z : Int) (r : Nat → Int) : ∀ (l m : List (Nat → Int)) (cs : List Nat), dt (l ++ (fun c => z * r c) :: m) cs = z * dt (l ++ r :: m) cs
  | [], m, cs => io_mul z r cs _
  | p :: l, m, cs => by
    show io p (dt (l ++ _ :: m)) cs = z * io p (dt (l ++ r :: m)) cs
    rw [← io_mulf]
    exact io_congr (fun _ _ => rfl) fun k _ _ => dt_mul z r l m k
/-- A row is moved to the end (ahead in the list). -/
theorem dt_move (r : Nat → Int) : ∀ (l m : List (Nat → Int)) (cs : List Nat), dt (l ++ r :: m) cs = sg l.length * dt (r :: (l ++ m)) cs
  | [], m, cs => by simp [sg]
  | p :: l, m, cs => by
    show io p (dt (l ++ r :: m)) cs = _ * io r (io p (dt (l ++ m))) cs
    rw [io_congr (r := p) (q := p) (g := fun k => sg l.length * io r (dt (l ++ m)) k) (fun _ _ => rfl) (fun k _ _ => dt_move r l m k), io_mulf, io_anti p r]
    show _ = - sg l.length * _
    rw [Int.mul_neg, Int.neg_mul]
theorem dt_twice {r : Nat → Int} {l : List (Nat → Int)} (h : r ∈ l) (cs : List Nat) : dt (r :: l) cs = 0 := by
  obtain ⟨a, b, rfl⟩ := List.append_of_mem h
  show io r (dt (a ++ r :: b)) cs = 0
  rw [io_congr (r := r) (q := r) (g := fun k => sg a.length * io r (dt (a ++ b)) k) (fun _ _ => rfl) (fun k _ _ => dt_move r a b k), io_mulf, io_same]; simp
/-- Two rows are exchanged. -/
theorem dt_swap (r q : Nat → Int) (l m n : List (Nat → Int)) (cs : List Nat) : dt (l ++ r :: (m ++ q :: n)) cs = - dt (l ++ q :: (m ++ r :: n)) cs := by
  have key : ∀ r q : Nat → Int, dt (l ++ r :: (m ++ q :: n)) cs = sg l.length * (sg (l.length + m.length) * io r (io q (dt (l ++ m ++ n))) cs) := fun r q => by
    rw [dt_move r l]
    congr 1
    show io r (dt (l ++ (m ++ q :: n))) cs = _
    rw [← List.append_assoc, io_congr (r := r) (q := r) (g := fun k => sg (l.length + m.length) * io q (dt (l ++ m ++ n)) k) (fun _ _ => rfl) (fun k _ _ => by rw [dt_move q (l ++ m) n k, List.length_append]; rfl), io_mulf]
  rw [key r q, key q r, io_anti r q, Int.mul_neg, Int.mul_neg]
/-- A row that the others add up to. -/
theorem dt_comb (l : List (Nat → Int)) (cs : List Nat) : ∀ (m : List (Int × (Nat → Int))), (∀ p ∈ m, p.2 ∈ l) → dt ((fun c => (m.map fun p => p.1 * p.2 c).sum) :: l) cs = 0
  | [], _ => by
    have h := dt_mul 0 (fun _ => 0) [] l cs
    simp only [List.nil_append, Int.zero_mul] at h
    simpa using h
  | p :: m, h => by
    have h1 := dt_add (fun c => p.1 * p.2 c) (fun c => (m.map fun p => p.1 * p.2 c).sum) [] l cs
    have h2 := dt_mul p.1 p.2 [] l cs
    simp only [List.nil_append] at h1 h2
    have h3 : dt ((fun c => ((p :: m).map fun p => p.1 * p.2 c).sum) :: l) cs = dt ((fun c => p.1 * p.2 c + (m.map fun p => p.1 * p.2 c).sum) :: l) cs := rfl
    rw [h3, h1, h2, dt_comb l cs m (fun q hq => h q (by simp [hq])), dt_twice (h p (by simp))]; simp
/-- Rows that add up to nothing. -/
theorem dt_sum {r : Nat → Int} {l : List (Nat → Int)} {cs : List Nat} (h : ∀ c ∈ cs, r c + (l.map fun q => q c).sum = 0) : dt (r :: l) cs = 0 := by
  have h1 := dt_comb l cs (l.map fun q => (-1, q)) (fun p hp => by obtain ⟨q, hq, rfl⟩ := List.mem_map.1 hp; exact hq)
  rw [← h1]
  refine io_congr (fun c hc => ?_) fun _ _ _ => rfl
  have h2 := h c hc
  have h3 : ∀ l : List (Nat → Int), ((l.map fun q => ((-1 : Int), q)).map fun p => p.1 * p.2 c).sum = - (l.map fun q => q c).sum := by
    intro l
    induction l with
    | nil => rfl
    | cons a l ih => simp only [List.map_cons, List.sum_cons, ih]; omega
  rw [h3]; omega

/-! ### the minor of some rows and the same columns -/
def dm (a : Nat → Nat → Int) (I : List Nat) : Int := dt (I.reverse.map a) I
theorem dm_nil (a : Nat → Nat → Int) : dm a [] = 1 := rfl
theorem dm_congr {a b : Nat → Nat → Int} {I : List Nat} (h : ∀ i ∈ I, ∀ j ∈ I, a i j = b i j) : dm a I = dm b I := by
  have := dt_congr (ps := I.reverse.map fun u => (a u, b u)) (cs := I) fun p hp c hc => by
    obtain ⟨u, hu, rfl⟩ := List.mem_map.1 hp
    exact h u (List.mem_reverse.1 hu) c hc
  simpa [dm, List.map_map, Function.comp_def] using this
/-- One is added in the diagonal. -/
theorem dm_diag (a b : Nat → Nat → Int) (v : Nat) (xs ys : List Nat) (hx : v ∉ xs) (hy : v ∉ ys) (h : ∀ i ∈ xs ++ v :: ys, ∀ j ∈ xs ++ v :: ys, a i j = b i j + if i = v ∧ j = v then 1 else 0) :
    dm a (xs ++ v :: ys) = dm b (xs ++ v :: ys) + dm b (xs ++ ys) := by
  have e : ∀ f : Nat → Nat → Int, (xs ++ v :: ys).reverse.map f = (ys.reverse.map f) ++ f v :: (xs.reverse.map f) := fun f => by simp
  have h1 : dm a (xs ++ v :: ys) = dt ((ys.reverse.map b) ++ (fun c => b v c + if c = v then 1 else 0) :: (xs.reverse.map b)) (xs ++ v :: ys) := by
    unfold dm
    rw [e]
    have hm : ∀ u, u ∈ xs ++ ys → ∀ c ∈ xs ++ v :: ys, a u c = b u c := fun u hu c hc => by
      rw [h u (by rcases List.mem_append.1 hu with h | h <;> simp [h]) c hc, if_neg]
      · simp
      · rintro ⟨rfl, _⟩; rcases List.mem_append.1 hu with h | h
        · exact hx h
        · exact hy h
    have := dt_congr (ps := (ys.reverse.map fun u => (a u, b u)) ++ (a v, fun c => b v c + if c = v then 1 else 0) :: (xs.reverse.map fun u => (a u, b u))) (cs := xs ++ v :: ys) fun p hp c hc => by
      rcases List.mem_append.1 hp with hp | hp
      · obtain ⟨u, hu, rfl⟩ := List.mem_map.1 hp
        exact hm u (List.mem_append.2 (.inr (List.mem_reverse.1 hu))) c hc
      · rcases List.mem_cons.1 hp with rfl | hp
        · show a v c = _
          rw [h v (by simp) c hc]; simp
        · obtain ⟨u, hu, rfl⟩ := List.mem_map.1 hp
          exact hm u (List.mem_append.2 (.inl (List.mem_reverse.1 hu))) c hc
    simpa [List.map_map, Function.comp_def] using this
  rw [h1, dt_add]
  have h2 : dt ((ys.reverse.map b) ++ b v :: (xs.reverse.map b)) (xs ++ v :: ys) = dm b (xs ++ v :: ys) := by unfold dm; rw [e]
  rw [h2]
  congr 1
  rw [dt_move]
  show _ * io _ (dt _) (xs ++ v :: ys) = _
  have hy' : ∀ c ∈ ys, (if c = v then (1 : Int) else 0) = 0 := fun c hc => if_neg (by rintro rfl; exact hy hc)
  have hx' : ∀ c ∈ xs, (if c = v then (1 : Int) else 0) = 0 := fun c hc => if_neg (by rintro rfl; exact hx hc)
  rw [io_unit (j := v) hy' hx']
  simp only [List.length_map, List.length_reverse]
  rw [if_pos trivial, Int.mul_one, ← Int.mul_assoc, sg_sq, Int.one_mul]
  unfold dm
  simp
/-- Rows that add up to nothing. -/
theorem dm_sum {a : Nat → Nat → Int} {I : List Nat} (hI : I ≠ []) (h : ∀ j ∈ I, (I.map fun i => a i j).sum = 0) : dm a I = 0 := by
  unfold dm
  cases hr : I.reverse with
  | nil => exact absurd (List.reverse_eq_nil_iff.1 hr) hI
  | cons u l =>
    refine dt_sum fun c hc => ?_
    have h1 := h c hc
    have h2 : (I.reverse.map fun i => a i c).sum = (I.map fun i => a i c).sum := by rw [List.map_reverse, List.sum_reverse]
    rw [h1, hr] at h2
    simpa [List.map_map, Function.comp_def] using h2
end Go.Proofs.Ytcoikcnijaniaaa.detP

/- Trees are counted by a minor of the matrix, without the program: an edge that leads out is left out, or its end goes over to the other side. -/
namespace Go.Proofs.Ytcoikcnijaniaaa.trsP
open gridP gridQ bitP mazeP mazeQ forest deadP detP
set_option linter.unusedVariables false

/-! ### counting sets of edges -/
theorem cnt_add (p q : Nat → Bool) (n : Nat) : ∀ m, cnt p (n + m) = cnt p n + cnt (fun k => p (n + k)) m
  | 0 => rfl
  | m + 1 => by
    show cnt p (n + m) + (if p (n + m) = true then 1 else 0) = cnt p n + (cnt (fun k => p (n + k)) m + if p (n + m) = true then 1 else 0)
    rw [cnt_add p q n m, Nat.add_assoc]
theorem bt_hi {o G : Nat} (h : o < 2 ^ G) : bt (2 ^ G + o) G = 1 := by
  unfold bt
  rw [Nat.add_div_left _ (Nat.pow_pos (by decide)), Nat.div_eq_of_lt h]
theorem bt_lo {o G g : Nat} (hg : g < G) : bt (2 ^ G + o) g = bt o g := by
  unfold bt
  obtain ⟨d, rfl⟩ : ∃ d, G = g + 1 + d := ⟨G - g - 1, by omega⟩
  have e : 2 ^ (g + 1 + d) + o = 2 ^ g * (2 * 2 ^ d) + o := by
    rw [Nat.pow_add, Nat.pow_succ]; rw [Nat.mul_assoc]
  rw [e, Nat.mul_add_div (Nat.pow_pos (by decide)), Nat.add_mod, Nat.mul_mod_right]; simp
/-- The sets without an edge, and those with it. -/
theorem cnt_bit {e : Nat} : ∀ {G : Nat} (p : Nat → Bool), e < G → cnt p (2 ^ G) = cnt (fun o => decide (bt o e = 0) && p o) (2 ^ G) + cnt (fun o => decide (bt o e = 0) && p (o + 2 ^ e)) (2 ^ G)
  | 0, _, h => absurd h (by omega)
  | G + 1, p, h => by
    have e2 : 2 ^ (G + 1) = 2 ^ G + 2 ^ G := by rw [Nat.pow_succ]; omega
    rw [e2, cnt_add p p, cnt_add _ p, cnt_add _ p]
    by_cases he : e = G
    · subst he
      have h1 : cnt (fun o => decide (bt o e = 0) && p o) (2 ^ e) = cnt p (2 ^ e) := cnt_ext fun o ho => by rw [bt_lt ho (Nat.le_refl _)]; simp
      have h2 : cnt (fun o => decide (bt (2 ^ e + o) e = 0) && p (2 ^ e + o)) (2 ^ e) = 0 := cnt_none fun o ho => by rw [bt_hi ho]; simp
      have h3 : cnt (fun o => decide (bt o e = 0) && p (o + 2 ^ e)) (2 ^ e) = cnt (fun k => p (2 ^ e + k)) (2 ^ e) := cnt_ext fun o ho => by rw [bt_lt ho (Nat.le_refl _), Nat.add_comm]; simp
      have h4 : cnt (fun o => decide (bt (2 ^ e + o) e = 0) && p (2 ^ e + o + 2 ^ e)) (2 ^ e) = 0 := cnt_none fun o ho => by rw [bt_hi ho]; simp
      rw [h1, h2, h3, h4]; omega
    · have i1 := cnt_bit (e := e) (G := G) p (by omega)
      have i2 := cnt_bit (e := e) (G := G) (fun k => p (2 ^ G + k)) (by omega)
      have h1 : cnt (fun o => decide (bt (2 ^ G + o) e = 0) && p (2 ^ G + o)) (2 ^ G) = cnt (fun o => decide (bt o e = 0) && p (2 ^ G + o)) (2 ^ G) := cnt_ext fun o ho => by rw [bt_lo (by omega)]
      have h2 : cnt (fun o => decide (bt (2 ^ G + o) e = 0) && p (2 ^ G + o + 2 ^ e)) (2 ^ G) = cnt (fun o => decide (bt o e = 0) && p (2 ^ G + (o + 2 ^ e))) (2 ^ G) := cnt_ext fun o ho => by rw [bt_lo (by omega), Nat.add_assoc]
      rw [i1, i2, h1, h2]; omega

/-! ### edges, and what they lead to -/
section
variable (G : Nat) (u v : Nat → Nat)
/-- A cell from which the edges of a set lead out of a list. -/
inductive Rc (E : Nat → Prop) (I : List Nat) : Nat → Prop
  | out (w : Nat) : w ∉ I → Rc E I w
  | left (g : Nat) : g < G → E g → Rc E I (u g) → Rc E I (v g)
  | right (g : Nat) : g < G → E g → Rc E I (v g) → Rc E I (u g)
/-- The matrix of a set of edges. -/
def inc (g i : Nat) : Int := (if u g = i then 1 else 0) - (if v g = i then 1 else 0)
def lap (E : Nat → Bool) (i j : Nat) : Int := ((List.range G).map fun g => if E g = true then inc u v g i * inc u v g j else 0).sum
/-- The sets of edges that are trees, from all cells of a list out of it. -/
def IsTr (E : Nat → Bool) (I : List Nat) (o : Nat) : Prop := (∀ g, g < G → bt o g = 1 → E g = true) ∧ pcN o G = I.length ∧ ∀ w ∈ I, Rc G u v (fun g => bt o g = 1) I w
end

section
variable {G : Nat} {u v : Nat → Nat}
theorem rc_mono {E E' : Nat → Prop} {I I' : List Nat} (hI : ∀ w, w ∉ I → w ∉ I') (hE : ∀ g, g < G → E g → E' g ∨ (u g ∉ I' ∧ v g ∉ I')) {w : Nat} (h : Rc G u v E I w) : Rc G u v E' I' w := by
  induction h with
  | out w hw => exact .out w (hI w hw)
  | left g hg he _ ih =>
    rcases hE g hg he with h | ⟨h1, h2⟩
    · exact .left g hg h ih
    · exact .out _ h2
  | right g hg he _ ih =>
    rcases hE g hg he with h | ⟨h1, h2⟩
    · exact .right g hg h ih
    · exact .out _ h1
/-- An end goes over to the other side. -/
theorem rc_over {E E' : Nat → Prop} {I I' : List Nat} {x : Nat} (hI : ∀ w, w ∉ I' → w ∉ I ∨ w = x) (hx : Rc G u v E' I x) (hE : ∀ g, g < G → E g → E' g) {w : Nat} (h : Rc G u v E I' w) : Rc G u v E' I w := by
  induction h with
  | out w hw =>
    rcases hI w hw with h | rfl
    · exact .out w h
    · exact hx
  | left g hg he _ ih => exact .left g hg (hE g hg he) ih
  | right g hg he _ ih => exact .right g hg (hE g hg he) ih
/-- No edge leads out. -/
theorem rc_none {E : Nat → Prop} {I : List Nat} (h : ∀ g, g < G → E g → (u g ∈ I ↔ v g ∈ I)) {w : Nat} (hw : Rc G u v E I w) : w ∉ I := by
  induction hw with
  | out w hw => exact hw
  | left g hg he _ ih => exact fun hm => ih ((h g hg he).2 hm)
  | right g hg he _ ih => exact fun hm => ih ((h g hg he).1 hm)
theorem pow_sub {n e : Nat} (h : bt n e = 1) : 2 ^ e ≤ n := (bt_take h).1
theorem good_skip {E E' : Nat → Bool} {I : List Nat} {e o : Nat} (he : e < G) (hE' : ∀ g, g < G → E' g = (E g && !(g == e))) (h0 : bt o e = 0) : IsTr G u v E I o ↔ IsTr G u v E' I o := by
  have : (∀ g, g < G → bt o g = 1 → E g = true) ↔ (∀ g, g < G → bt o g = 1 → E' g = true) := by
    constructor
    · intro h g hg hb
      rw [hE' g hg, h g hg hb]
      have : g ≠ e := by rintro rfl; omega
      simp [this]
    · intro h g hg hb
      have := h g hg hb
      rw [hE' g hg, Bool.and_eq_true] at this
      exact this.1
  unfold IsTr; rw [this]
theorem good_take {E E' : Nat → Bool} {xs ys : List Nat} {e o r x : Nat} (he : e < G) (hEe : E e = true) (hE' : ∀ g, g < G → E' g = (E g && !(g == e))) (h0 : bt o e = 0) (hx : x ∉ xs ++ ys) (hr : r ∉ xs ++ x :: ys) (hends : (u e = r ∧ v e = x) ∨ (u e = x ∧ v e = r)) :
    IsTr G u v E (xs ++ x :: ys) (o + 2 ^ e) ↔ IsTr G u v E' (xs ++ ys) o := by
  have hpc := pc_add h0 he
  have hbt : ∀ g, bt (o + 2 ^ e) g = 1 ↔ (g = e ∨ bt o g = 1) := fun g => by rw [bt_add h0]; split <;> simp_all
  have hmem : ∀ w, w ∈ xs ++ x :: ys ↔ w ∈ xs ++ ys ∨ w = x := fun w => by
    simp only [List.mem_append, List.mem_cons]
    exact ⟨fun h => h.elim (fun h => .inl (.inl h)) (fun h => h.elim .inr (fun h => .inl (.inr h))), fun h => h.elim (fun h => h.elim .inl (fun h => .inr (.inr h))) (fun h => .inr (.inl h))⟩
  have hr' : r ∉ xs ++ ys := fun h => hr ((hmem r).2 (.inl h))
  have hxr : Rc G u v (fun g => bt (o + 2 ^ e) g = 1) (xs ++ x :: ys) x := by
    have hR : Rc G u v (fun g => bt (o + 2 ^ e) g = 1) (xs ++ x :: ys) r := .out r hr
    rcases hends with ⟨h1, h2⟩ | ⟨h1, h2⟩
    · have := Rc.left (G := G) (u := u) (v := v) e he ((hbt e).2 (.inl rfl)) (h1 ▸ hR)
      rwa [h2] at this
    · have := Rc.right (G := G) (u := u) (v := v) e he ((hbt e).2 (.inl rfl)) (h2 ▸ hR)
      rwa [h1] at this
  unfold IsTr
  constructor
  · rintro ⟨h1, h2, h3⟩
    refine ⟨fun g hg hb => ?_, by simp at h2 ⊢; omega, fun w hw => ?_⟩
    · rw [hE' g hg, h1 g hg ((hbt g).2 (.inr hb))]
      have : g ≠ e := by rintro rfl; omega
      simp [this]
    · refine rc_mono (fun w hw h => hw ((hmem w).2 (.inl h))) (fun g hg hb => ?_) (h3 w ((hmem w).2 (.inl hw)))
      rcases (hbt g).1 hb with rfl | h
      · rcases hends with ⟨e1, e2⟩ | ⟨e1, e2⟩
        · exact .inr ⟨by rw [e1]; exact hr', by rw [e2]; exact hx⟩
        · exact .inr ⟨by rw [e1]; exact hx, by rw [e2]; exact hr'⟩
      · exact .inl h
  · rintro ⟨h1, h2, h3⟩
    refine ⟨fun g hg hb => ?_, by simp at h2 ⊢; omega, fun w hw => ?_⟩
    · rcases (hbt g).1 hb with rfl | h
      · exact hEe
      · have := h1 g hg h
        rw [hE' g hg, Bool.and_eq_true] at this
        exact this.1
    · rcases (hmem w).1 hw with h | rfl
      · refine rc_over (x := x) (fun w hw => ?_) hxr (fun g hg hb => (hbt g).2 (.inr hb)) (h3 w h)
        by_cases hwx : w = x
        · exact .inr hwx
        · exact .inl (fun h => ((hmem w).1 h).elim hw hwx)
      · exact hxr

/-! ### the matrix -/
theorem sum_del {f f' : Nat → Int} {e : Nat} (h0 : f' e = 0) : ∀ {G : Nat}, e < G → (∀ g, g < G → g ≠ e → f g = f' g) → ((List.range G).map f).sum = ((List.range G).map f').sum + f e
  | 0, h, _ => absurd h (by omega)
  | G + 1, h, he => by
    rw [List.range_succ, List.map_append, List.map_append, List.sum_append, List.sum_append]
    simp only [List.map_cons, List.map_nil, List.sum_cons, List.sum_nil]
    by_cases hg : e = G
    · subst hg
      have : (List.range e).map f = (List.range e).map f' := List.map_congr_left fun g hg => he g (by have := List.mem_range.1 hg; omega) (by have := List.mem_range.1 hg; omega)
      rw [this, h0]; omega
    · rw [sum_del h0 (G := G) (by omega) (fun g hg => he g (by omega)), he G (by omega) (fun h => hg h.symm)]; omega
theorem lap_del {E E' : Nat → Bool} {I : List Nat} {e r x : Nat} (he : e < G) (hEe : E e = true) (hE' : ∀ g, g < G → E' g = (E g && !(g == e))) (hr : r ∉ I) (hends : (u e = r ∧ v e = x) ∨ (u e = x ∧ v e = r)) {i j : Nat} (hi : i ∈ I) (hj : j ∈ I) :
    lap G u v E i j = lap G u v E' i j + if i = x ∧ j = x then 1 else 0 := by
  unfold lap
  have h0 : (if E' e = true then inc u v e i * inc u v e j else 0) = 0 := by rw [hE' e he]; simp
  rw [sum_del (e := e) (f' := fun g => if E' g = true then inc u v g i * inc u v g j else 0) h0 he (fun g hg hne => by rw [hE' g hg]; simp [hne]), if_pos hEe]
  congr 1
  have hri : r ≠ i := by rintro rfl; exact hr hi
  have hrj : r ≠ j := by rintro rfl; exact hr hj
  unfold inc
  rcases hends with ⟨h1, h2⟩ | ⟨h1, h2⟩ <;> rw [h1, h2, if_neg hri, if_neg hrj]
  · by_cases hxi : x = i <;> by_cases hxj : x = j <;> simp [hxi, hxj, eq_comm] <;> omega
  · by_cases hxi : x = i <;> by_cases hxj : x = j <;> simp [hxi, hxj, eq_comm] <;> omega
theorem sum_add (f g : Nat → Int) : ∀ l : List Nat, (l.map fun k => f k + g k).sum = (l.map f).sum + (l.map g).sum
  | [] => rfl
  | k :: l => by simp only [List.map_cons, List.sum_cons, sum_add f g l]; omega
theorem sum_mul (z : Int) (f : Nat → Int) : ∀ l : List Nat, (l.map fun k => f k * z).sum = (l.map f).sum * z
  | [] => by simp
  | k :: l => by simp only [List.map_cons, List.sum_cons, sum_mul z f l, Int.add_mul]
theorem sum_zero : ∀ {l : List Nat} {f : Nat → Int}, (∀ k ∈ l, f k = 0) → (l.map f).sum = 0
  | [], _, _ => rfl
  | k :: l, f, h => by simp only [List.map_cons, List.sum_cons]; rw [h k (by simp), sum_zero (fun j hj => h j (by simp [hj]))]; rfl
theorem sum_swap (f : Nat → Nat → Int) (m : List Nat) : ∀ l : List Nat, (l.map fun i => (m.map fun g => f i g).sum).sum = (m.map fun g => (l.map fun i => f i g).sum).sum
  | [] => by simp [sum_zero]
  | i :: l => by
    simp only [List.map_cons, List.sum_cons]
    rw [sum_swap f m l, ← sum_add]
theorem sum_delta {x : Nat} : ∀ {l : List Nat}, l.Nodup → (l.map fun i => if x = i then (1 : Int) else 0).sum = if x ∈ l then 1 else 0
  | [], _ => by simp
  | i :: l, h => by
    have h2 := List.nodup_cons.1 h
    simp only [List.map_cons, List.sum_cons, List.mem_cons]
    rw [sum_delta h2.2]
    by_cases hxi : x = i
    · subst hxi; simp [h2.1]
    · simp [hxi]
/-- Where no edge leads out, the rows add up to nothing. -/
theorem lap_sum {E : Nat → Bool} {I : List Nat} (hI : I.Nodup) (h : ∀ g, g < G → E g = true → (u g ∈ I ↔ v g ∈ I)) {j : Nat} (hj : j ∈ I) : (I.map fun i => lap G u v E i j).sum = 0 := by
  unfold lap
  rw [sum_swap (fun i g => if E g = true then inc u v g i * inc u v g j else 0)]
  refine sum_zero fun g hg => ?_
  have hg := List.mem_range.1 hg
  by_cases he : E g = true
  · simp only [if_pos he]
    rw [sum_mul]
    have : (I.map fun i => inc u v g i).sum = 0 := by
      have h1 := sum_add (fun i => if u g = i then (1 : Int) else 0) (fun i => (if v g = i then (1 : Int) else 0) * -1) I
      rw [sum_mul, sum_delta hI, sum_delta hI] at h1
      have h2 : (I.map fun i => inc u v g i) = I.map fun i => (if u g = i then (1 : Int) else 0) + (if v g = i then (1 : Int) else 0) * -1 := List.map_congr_left fun i _ => by unfold inc; omega
      rw [h2, h1]
      have := h g hg he
      by_cases hu : u g ∈ I
      · rw [if_pos hu, if_pos (this.1 hu)]; rfl
      · rw [if_neg hu, if_neg (fun hv => hu (this.2 hv))]; rfl
    rw [this]; simp
  · simp only [if_neg he]
    exact sum_zero fun _ _ => rfl
theorem pc_none {o : Nat} : ∀ {G : Nat}, pcN o G = 0 → ∀ g, g < G → bt o g = 0
  | 0, _, g, h => absurd h (by omega)
  | G + 1, h, g, hg => by
    unfold pcN at h
    by_cases e : g = G
    · subst e; unfold bt; omega
    · exact pc_none (G := G) (by omega) g (by omega)
theorem zero_of_bits {o G : Nat} (ho : o < 2 ^ G) (h : ∀ g, g < G → bt o g = 0) : o = 0 := by
  apply Nat.eq_of_testBit_eq
  intro i
  rw [bt_test, bt_test]
  by_cases hi : i < G
  · rw [h i hi]; simp [bt]
  · rw [bt_lt ho (by omega)]; simp [bt]
/-- Where no edge leads out. -/
theorem trees_out {E : Nat → Bool} {I : List Nat} {p : Nat → Bool} (hI : I.Nodup) (hp : ∀ o, o < 2 ^ G → (p o = true ↔ IsTr G u v E I o)) (hout : ∀ g, g < G → E g = true → (u g ∈ I ↔ v g ∈ I)) : (cnt p (2 ^ G) : Int) = dm (lap G u v E) I := by
  cases hI0 : I with
  | nil =>
    subst hI0
    rw [dm_nil]
    have h1 : cnt p (2 ^ G) = cnt (fun o => o == 0) (2 ^ G) := cnt_ext fun o ho => by
      rw [Bool.eq_iff_iff, hp o ho, beq_iff_eq]
      constructor
      · intro h; exact zero_of_bits ho (pc_none h.2.1)
      · rintro rfl
        have hz : ∀ k, pcN 0 k = 0 := fun k => by
          induction k with
          | zero => rfl
          | succ k ih => rw [pcN, ih]; simp
        exact ⟨fun g _ h => by simp [bt] at h, hz G, fun w hw => absurd hw (by simp)⟩
    have h2 := cnt_single 0 (2 ^ G)
    have h3 := cnt_pos (p := fun o => o == 0) (k := 0) (n := 2 ^ G) (Nat.pow_pos (by decide)) (by simp)
    rw [h1]; omega
  | cons w l =>
    rw [← hI0]
    have hw : w ∈ I := by rw [hI0]; simp
    rw [dm_sum (by rw [hI0]; simp) (fun j hj => lap_sum hI hout hj), cnt_none fun o ho => by
      rw [← Bool.not_eq_true, hp o ho]
      intro h
      exact rc_none (fun g hg hb => hout g hg (h.1 g hg hb)) (h.2.2 w hw) hw]
    rfl
/-- THE NUMBER OF TREES IS A MINOR. -/
theorem trees_minor : ∀ (k : Nat) {E : Nat → Bool} {I : List Nat} {p : Nat → Bool}, cnt E G ≤ k → I.Nodup → (∀ o, o < 2 ^ G → (p o = true ↔ IsTr G u v E I o)) → (cnt p (2 ^ G) : Int) = dm (lap G u v E) I := by
  intro k
  induction k with
  | zero =>
    intro E I p hk hI hp
    have hE : ∀ g, g < G → E g ≠ true := fun g hg he => by have := cnt_pos hg he; omega
    exact trees_out hI hp (fun g hg he => absurd he (hE g hg))
  | succ k ih =>
    intro E I p hk hI hp
    by_cases hout : ∀ g, g < G → E g = true → (u g ∈ I ↔ v g ∈ I)
    · exact trees_out hI hp hout
    · obtain ⟨e, he, hEe, r, x, hr, hx, hends⟩ : ∃ e, e < G ∧ E e = true ∧ ∃ r x, r ∉ I ∧ x ∈ I ∧ ((u e = r ∧ v e = x) ∨ (u e = x ∧ v e = r)) := by
        apply Classical.byContradiction
        intro hn
        refine hout fun g hg hE => ⟨fun h => ?_, fun h => ?_⟩
        · exact Classical.byContradiction fun h' => hn ⟨g, hg, hE, v g, u g, h', h, .inr ⟨rfl, rfl⟩⟩
        · exact Classical.byContradiction fun h' => hn ⟨g, hg, hE, u g, v g, h', h, .inl ⟨rfl, rfl⟩⟩
      obtain ⟨xs, ys, rfl⟩ := List.append_of_mem hx
      have hnd := List.nodup_append.1 hI
      have hx1 : x ∉ xs := fun h => hnd.2.2 x h x (by simp) rfl
      have hx2 : x ∉ ys := (List.nodup_cons.1 hnd.2.1).1
      have hI' : (xs ++ ys).Nodup := List.nodup_append.2 ⟨hnd.1, (List.nodup_cons.1 hnd.2.1).2, fun a ha b hb => hnd.2.2 a ha b (by simp [hb])⟩
      have hE' : ∀ g, g < G → (fun g => E g && !(g == e)) g = (E g && !(g == e)) := fun _ _ => rfl
      have hk' : cnt (fun g => E g && !(g == e)) G ≤ k := by
        have := cnt_del (p := E) (q := fun g => E g && !(g == e)) hEe (by simp) he (fun g _ hne => by simp [hne])
        omega
      have d := dm_diag (lap G u v E) (lap G u v fun g => E g && !(g == e)) x xs ys hx1 hx2 (fun i hi j hj => lap_del he hEe hE' hr hends hi hj)
      have hxn : x ∉ xs ++ ys := fun h => (List.mem_append.1 h).elim hx1 hx2
      have i1 := ih (E := fun g => E g && !(g == e)) (I := xs ++ x :: ys) (p := fun o => decide (bt o e = 0) && p o) hk' hI (fun o ho => by
        rw [Bool.and_eq_true, decide_eq_true_iff, hp o ho]
        constructor
        · rintro ⟨h0, h⟩; exact (good_skip he hE' h0).1 h
        · intro h
          have h0 : bt o e = 0 := by
            have := bt_le o e
            by_cases h1 : bt o e = 1
            · have := h.1 e he h1; simp at this
            · omega
          exact ⟨h0, (good_skip he hE' h0).2 h⟩)
      have i2 := ih (E := fun g => E g && !(g == e)) (I := xs ++ ys) (p := fun o => decide (bt o e = 0) && p (o + 2 ^ e)) hk' hI' (fun o ho => by
        rw [Bool.and_eq_true, decide_eq_true_iff]
        constructor
        · rintro ⟨h0, h⟩
          exact (good_take he hEe hE' h0 hxn hr hends).1 ((hp _ (add_lt ho he h0)).1 h)
        · intro h
          have h0 : bt o e = 0 := by
            have := bt_le o e
            by_cases h1 : bt o e = 1
            · have := h.1 e he h1; simp at this
            · omega
          exact ⟨h0, (hp _ (add_lt ho he h0)).2 ((good_take he hEe hE' h0 hxn hr hends).2 h)⟩)
      rw [d, ← i1, ← i2, cnt_bit p he]
      simp
end
end Go.Proofs.Ytcoikcnijaniaaa.trsP

/- Exact division in a matrix of a graph, without the program: what stands there are minors, none of them is large, and where one is 0 there is no tree. -/
namespace Go.Proofs.Ytcoikcnijaniaaa.barP
open gridP gridQ bitP mazeP mazeQ forest deadP detP trsP
set_option linter.unusedVariables false

/-! ### minors of a graph's matrix -/
section
variable {G : Nat} {u v : Nat → Nat}
theorem minor_cnt (E : Nat → Bool) {I : List Nat} (hI : I.Nodup) : ∃ p : Nat → Bool, (∀ o, o < 2 ^ G → (p o = true ↔ IsTr G u v E I o)) ∧ (cnt p (2 ^ G) : Int) = dm (lap G u v E) I := by
  have hp : ∀ o, o < 2 ^ G → ((fun o => @decide (IsTr G u v E I o) (Classical.propDecidable _)) o = true ↔ IsTr G u v E I o) := fun o _ => by simp
  exact ⟨_, hp, trees_minor _ (Nat.le_refl _) hI hp⟩
theorem cnt_most (p : Nat → Bool) : ∀ n, cnt p n ≤ n
  | 0 => Nat.le_refl _
  | n + 1 => by
    have := cnt_most p n
    show cnt p n + (if p n = true then 1 else 0) ≤ n + 1
    split <;> omega
theorem minor_bd (E : Nat → Bool) {I : List Nat} (hI : I.Nodup) : 0 ≤ dm (lap G u v E) I ∧ dm (lap G u v E) I ≤ 2 ^ G := by
  obtain ⟨p, -, h⟩ := minor_cnt (G := G) (u := u) (v := v) E hI
  have := cnt_most p (2 ^ G)
  have e : ((2 : Int) ^ G) = ((2 ^ G : Nat) : Int) := by simp
  rw [← h, e]; omega
/-- Where all is connected with what lies outside there is a tree. -/
theorem minor_pos : ∀ (k : Nat) {E : Nat → Bool} {I : List Nat}, cnt E G ≤ k → I.Nodup → (∀ w ∈ I, Rc G u v (fun g => E g = true) I w) → 1 ≤ dm (lap G u v E) I := by
  intro k
  induction k with
  | zero =>
    intro E I hk hI h
    have hE : ∀ g, g < G → E g ≠ true := fun g hg he => by have := cnt_pos hg he; omega
    cases I with
    | nil => rw [dm_nil]; decide
    | cons w l => exact absurd (show w ∈ w :: l by simp) (rc_none (fun g hg he => absurd he (hE g hg)) (h w (by simp)))
  | succ k ih =>
    intro E I hk hI h
    by_cases hout : ∀ g, g < G → E g = true → (u g ∈ I ↔ v g ∈ I)
    · cases I with
      | nil => rw [dm_nil]; decide
      | cons w l => exact absurd (show w ∈ w :: l by simp) (rc_none hout (h w (by simp)))
    · obtain ⟨e, he, hEe, r, x, hr, hx, hends⟩ : ∃ e, e < G ∧ E e = true ∧ ∃ r x, r ∉ I ∧ x ∈ I ∧ ((u e = r ∧ v e = x) ∨ (u e = x ∧ v e = r)) := by
        apply Classical.byContradiction
        intro hn
        refine hout fun g hg hE => ⟨fun h => ?_, fun h => ?_⟩
        · exact Classical.byContradiction fun h' => hn ⟨g, hg, hE, v g, u g, h', h, .inr ⟨rfl, rfl⟩⟩
        · exact Classical.byContradiction fun h' => hn ⟨g, hg, hE, u g, v g, h', h, .inl ⟨rfl, rfl⟩⟩
      obtain ⟨xs, ys, rfl⟩ := List.append_of_mem hx
      have hnd := List.nodup_append.1 hI
      have hx1 : x ∉ xs := fun h => hnd.2.2 x h x (by simp) rfl
      have hx2 : x ∉ ys := (List.nodup_cons.1 hnd.2.1).1
      have hI' : (xs ++ ys).Nodup := List.nodup_append.2 ⟨hnd.1, (List.nodup_cons.1 hnd.2.1).2, fun a ha b hb => hnd.2.2 a ha b (by simp [hb])⟩
      have hxn : x ∉ xs ++ ys := fun h => (List.mem_append.1 h).elim hx1 hx2
      have hsub : ∀ w, w ∈ xs ++ ys → w ∈ xs ++ x :: ys := fun w hw => by
        rcases List.mem_append.1 hw with h | h <;> simp [h]
      have hE' : ∀ g, g < G → (fun g => E g && !(g == e)) g = (E g && !(g == e)) := fun _ _ => rfl
      have hk' : cnt (fun g => E g && !(g == e)) G ≤ k := by
        have := cnt_del (p := E) (q := fun g => E g && !(g == e)) hEe (by simp) he (fun g _ hne => by simp [hne])
        omega
      have d := dm_diag (lap G u v E) (lap G u v fun g => E g && !(g == e)) x xs ys hx1 hx2 (fun i hi j hj => lap_del he hEe hE' hr hends hi hj)
      have i1 := (minor_bd (G := G) (u := u) (v := v) (fun g => E g && !(g == e)) hI).1
      have i2 := ih (E := fun g => E g && !(g == e)) (I := xs ++ ys) hk' hI' (fun w hw => by
        refine rc_mono (fun w hw h => hw (hsub w h)) (fun g hg hE => ?_) (h w (hsub w hw))
        by_cases hge : g = e
        · subst hge
          rcases hends with ⟨e1, e2⟩ | ⟨e1, e2⟩
          · exact .inr ⟨by rw [e1]; exact fun h => hr (hsub r h), by rw [e2]; exact hxn⟩
          · exact .inr ⟨by rw [e1]; exact hxn, by rw [e2]; exact fun h => hr (hsub r h)⟩
        · exact .inl (by rw [hE]; simp [hge]))
      omega
/-- Where a smaller minor is 0 the larger one is, too. -/
theorem minor_zero {E : Nat → Bool} {I J : List Nat} (hI : I.Nodup) (hJ : J.Nodup) (hs : ∀ w ∈ J, w ∈ I) (h : dm (lap G u v E) J = 0) : dm (lap G u v E) I = 0 := by
  obtain ⟨w, hw, hn⟩ : ∃ w, w ∈ J ∧ ¬ Rc G u v (fun g => E g = true) J w := by
    apply Classical.byContradiction
    intro hn
    have := minor_pos (G := G) (u := u) (v := v) (E := E) (I := J) _ (Nat.le_refl _) hJ (fun w hw => Classical.byContradiction fun h' => hn ⟨w, hw, h'⟩)
    omega
  obtain ⟨p, hp, he⟩ := minor_cnt (G := G) (u := u) (v := v) E hI
  rw [← he, cnt_none fun o ho => ?_]
  · rfl
  · rw [← Bool.not_eq_true, hp o ho]
    intro hg
    exact hn (rc_mono (fun w hw h => hw (hs w h)) (fun g hg' hb => .inl (hg.1 g hg' hb)) (hg.2.2 w (hs w hw)))
theorem lap_symm (E : Nat → Bool) (i j : Nat) : lap G u v E i j = lap G u v E j i := by
  unfold lap
  congr 1
  exact List.map_congr_left fun g _ => by rw [Int.mul_comm]
end

/-! ### other names for rows and columns -/
theorem io_map (w : Nat → Nat) (r : Nat → Int) : ∀ (cs : List Nat) (f : List Nat → Int), io (fun c => r (w c)) (fun l => f (l.map w)) cs = io r f (cs.map w)
  | [], _ => rfl
  | c :: cs, f => by
    show sg cs.length * r (w c) * f (cs.map w) + io (fun c => r (w c)) (fun l => f (w c :: l.map w)) cs = sg (cs.map w).length * r (w c) * f (cs.map w) + io r (fun l => f (w c :: l)) (cs.map w)
    rw [io_map w r cs (fun l => f (w c :: l)), List.length_map]
theorem dt_map (w : Nat → Nat) : ∀ (l : List (Nat → Int)) (cs : List Nat), dt (l.map fun r c => r (w c)) cs = dt l (cs.map w)
  | [], _ => rfl
  | r :: l, cs => by
    show io (fun c => r (w c)) (dt (l.map fun r c => r (w c))) cs = io r (dt l) (cs.map w)
    rw [← io_map w r cs (dt l)]
    exact io_congr (fun _ _ => rfl) fun m _ _ => dt_map w l m
theorem dm_map (a : Nat → Nat → Int) (w : Nat → Nat) (J : List Nat) : dm (fun i j => a (w i) (w j)) J = dm a (J.map w) := by
  unfold dm
  rw [← dt_map w, ← List.map_reverse, List.map_map, List.map_map]; rfl

/-! ### exact division -/
/-- A row that others add up to. -/
def Sp (l : List (Nat → Int)) (f : Nat → Int) : Prop := ∃ m : List (Int × (Nat → Int)), (∀ p ∈ m, p.2 ∈ l) ∧ ∀ c, f c = (m.map fun p => p.1 * p.2 c).sum
theorem sp_add {l : List (Nat → Int)} {f g : Nat → Int} (hf : Sp l f) (hg : Sp l g) : Sp l fun c => f c + g c := by
  obtain ⟨m, h1, h2⟩ := hf
  obtain ⟨n, h3, h4⟩ := hg
  exact ⟨m ++ n, fun p hp => (List.mem_append.1 hp).elim (h1 p) (h3 p), fun c => by rw [List.map_append, List.sum_append, ← h2, ← h4]⟩
theorem sp_mul {l : List (Nat → Int)} {f : Nat → Int} (z : Int) (hf : Sp l f) : Sp l fun c => z * f c := by
  obtain ⟨m, h1, h2⟩ := hf
  refine ⟨m.map fun p => (z * p.1, p.2), fun p hp => by obtain ⟨q, hq, rfl⟩ := List.mem_map.1 hp; exact h1 q hq, fun c => ?_⟩
  show z * f c = _
  rw [h2]
  clear h1 h2
  induction m with
  | nil => simp
  | cons p m ih => simp only [List.map_cons, List.sum_cons, Int.mul_add, Int.mul_assoc] at ih ⊢; rw [ih]
theorem sp_one {l : List (Nat → Int)} {r : Nat → Int} (h : r ∈ l) : Sp l r := ⟨[(1, r)], fun p hp => by rw [List.mem_singleton.1 hp]; exact h, fun c => by simp⟩
theorem sp_mono {l l' : List (Nat → Int)} {f : Nat → Int} (h : ∀ r ∈ l, r ∈ l') (hf : Sp l f) : Sp l' f := by
  obtain ⟨m, h1, h2⟩ := hf
  exact ⟨m, fun p hp => h _ (h1 p hp), h2⟩
theorem sp_zero (l : List (Nat → Int)) : Sp l fun _ => 0 := ⟨[], fun p hp => absurd hp (by simp), fun c => by simp⟩
theorem dt_sp {l : List (Nat → Int)} {f : Nat → Int} (h : Sp l f) (cs : List Nat) : dt (f :: l) cs = 0 := by
  obtain ⟨m, h1, h2⟩ := h
  have : f = fun c => (m.map fun p => p.1 * p.2 c).sum := funext h2
  rw [this]; exact dt_comb l cs m h1
/-- Two rows that are 0 but in the last two columns. -/
theorem io_last2 {r q : Nat → Int} {t c : Nat} {f : List Nat → Int} : ∀ {xs : List Nat}, (∀ d ∈ xs, r d = 0) → (∀ d ∈ xs, q d = 0) → io r (io q f) (xs ++ [t, c]) = (r c * q t - r t * q c) * f xs := by
  intro xs hr hq
  have key : ∀ (g : List Nat → Int) (xs : List Nat), (∀ d ∈ xs, r d = 0) → io r g (xs ++ [t, c]) = - (r t * g (xs ++ [c])) + r c * g (xs ++ [t]) := by
    intro g xs
    induction xs generalizing g with
    | nil => intro _; simp [io, sg, Int.neg_mul]
    | cons d xs ih =>
      intro h
      show sg _ * r d * g (xs ++ [t, c]) + io r (fun l => g (d :: l)) (xs ++ [t, c]) = _
      rw [h d (by simp), ih (fun l => g (d :: l)) (fun e he => h e (by simp [he]))]; simp
  rw [key _ xs hr, io_last hq, io_last hq, Int.sub_mul, ← Int.mul_assoc, ← Int.mul_assoc]; omega
section
variable (a : Nat → Nat → Int)
def rowsN (k : Nat) : List (Nat → Int) := (List.range k).reverse.map a
def pk (k : Nat) : Int := dm a (List.range k)
def fk (k i j : Nat) : Int := dt (a i :: rowsN a k) (List.range k ++ [j])
end
section
variable {a : Nat → Nat → Int}
theorem rows_succ (k : Nat) : rowsN a (k + 1) = a k :: rowsN a k := by unfold rowsN; rw [List.range_succ]; simp
theorem pk_zero : pk a 0 = 1 := rfl
theorem fk_zero (i j : Nat) : fk a 0 i j = a i j := by simp [fk, rowsN, dt, io, sg]
theorem fk_pk (k : Nat) : fk a k k k = pk a (k + 1) := by
  unfold fk pk dm
  rw [← rows_succ, ← List.range_succ]; rfl
theorem fk_dm (k i : Nat) : fk a k i i = dm a (List.range k ++ [i]) := by unfold fk dm rowsN; simp
/-- What stands after k rounds, and how it comes from the rows. -/
def Vk (a : Nat → Nat → Int) (k : Nat) (w : Nat → Nat → Int) : Prop := (∀ i c, c < k → w i c = 0) ∧ (∀ i c, k ≤ c → w i c = fk a k i c) ∧ ∀ i, ∃ q : Int, q ≠ 0 ∧ Sp (rowsN a k) fun c => q * w i c - q * pk a k * a i c
theorem vk_dt {k : Nat} {w : Nat → Nat → Int} (h : Vk a k w) (hp : pk a k ≠ 0) (i t t' c : Nat) (ht : k ≤ t') (hc : k ≤ c) : fk a k i c * fk a k t t' - fk a k i t' * fk a k t c = pk a k * dt (a i :: a t :: rowsN a k) (List.range k ++ [t', c]) := by
  obtain ⟨h1, h2, h3⟩ := h
  obtain ⟨q, hq, hsq⟩ := h3 i
  obtain ⟨s, hs, hss⟩ := h3 t
  have e1 : dt (w i :: w t :: rowsN a k) (List.range k ++ [t', c]) = (w i c * w t t' - w i t' * w t c) * pk a k := io_last2 (fun d hd => h1 i d (List.mem_range.1 hd)) (fun d hd => h1 t d (List.mem_range.1 hd))
  have n1 := dt_mul q (w i) [] (w t :: rowsN a k) (List.range k ++ [t', c])
  have n2 := dt_mul s (w t) [fun c => q * w i c] (rowsN a k) (List.range k ++ [t', c])
  have f1 : (fun c => q * w i c) = fun c => (q * w i c - q * pk a k * a i c) + q * pk a k * a i c := funext fun c => by omega
  have f2 : (fun c => s * w t c) = fun c => (s * w t c - s * pk a k * a t c) + s * pk a k * a t c := funext fun c => by omega
  have n3 := dt_add (fun c => s * w t c - s * pk a k * a t c) (fun c => s * pk a k * a t c) [fun c => q * w i c] (rowsN a k) (List.range k ++ [t', c])
  have n4 : dt ((fun c => q * w i c) :: (fun c => s * w t c - s * pk a k * a t c) :: rowsN a k) (List.range k ++ [t', c]) = 0 := by
    have := dt_swap (fun c => q * w i c) (fun c => s * w t c - s * pk a k * a t c) [] [] (rowsN a k) (List.range k ++ [t', c])
    simp only [List.nil_append] at this
    rw [this, dt_sp (sp_mono (fun r hr => by simp [hr]) hss)]; rfl
  have n5 := dt_mul (s * pk a k) (a t) [fun c => q * w i c] (rowsN a k) (List.range k ++ [t', c])
  have n6 := dt_add (fun c => q * w i c - q * pk a k * a i c) (fun c => q * pk a k * a i c) [] (a t :: rowsN a k) (List.range k ++ [t', c])
  have n7 : dt ((fun c => q * w i c - q * pk a k * a i c) :: a t :: rowsN a k) (List.range k ++ [t', c]) = 0 := dt_sp (sp_mono (fun r hr => by simp [hr]) hsq) _
  have n8 := dt_mul (q * pk a k) (a i) [] (a t :: rowsN a k) (List.range k ++ [t', c])
  simp only [List.nil_append, List.cons_append] at n1 n2 n3 n5 n6 n8
  rw [← f1, n7, n8, Int.zero_add] at n6
  rw [← f2, n4, n5, n6, Int.zero_add] at n3
  rw [n3, n1, e1] at n2
  rw [← h2 i c hc, ← h2 t t' ht, ← h2 i t' ht, ← h2 t c hc]
  generalize w i c * w t t' - w i t' * w t c = X at n2 ⊢
  generalize dt (a i :: a t :: rowsN a k) (List.range k ++ [t', c]) = D at n2 ⊢
  generalize pk a k = P at *
  -- s * P * (q * P * D) = s * (q * (X * P))
  have m1 : s * (q * (P * (P * D))) = s * (q * (P * X)) := by
    rw [show s * (q * (P * (P * D))) = s * P * (q * P * D) by simp only [Int.mul_assoc, Int.mul_left_comm], n2, Int.mul_comm X P]
  have m2 := Int.eq_of_mul_eq_mul_left hs m1
  have m3 := Int.eq_of_mul_eq_mul_left hq m2
  exact (Int.eq_of_mul_eq_mul_left hp m3).symm
theorem fk_next {k : Nat} {w : Nat → Nat → Int} (h : Vk a k w) (hp : pk a k ≠ 0) (i c : Nat) (hc : k ≤ c) : fk a k i c * pk a (k + 1) - fk a k i k * fk a k k c = pk a k * fk a (k + 1) i c := by
  have := vk_dt h hp i k k c (Nat.le_refl _) hc
  rw [fk_pk] at this
  rw [this]
  unfold fk
  rw [rows_succ, List.range_succ]; simp
theorem vk_next {k : Nat} {w : Nat → Nat → Int} (h : Vk a k w) (hp : pk a k ≠ 0) : ∃ w', Vk a (k + 1) w' := by
  refine ⟨fun i c => if c < k + 1 then 0 else fk a (k + 1) i c, fun i c hc => if_pos hc, fun i c hc => if_neg (by omega), fun i => ?_⟩
  have hn : ∀ c, pk a k * (if c < k + 1 then 0 else fk a (k + 1) i c) = w i c * pk a (k + 1) - w i k * w k c := fun c => by
    rcases Nat.lt_trichotomy c k with hc | hc | hc
    · rw [if_pos (by omega), h.1 i c hc, h.1 k c hc]; simp
    · subst hc
      rw [if_pos (by omega), h.2.1 c c (Nat.le_refl _), fk_pk]; simp
    · rw [if_neg (by omega), ← fk_next h hp i c (by omega), h.2.1 i c (by omega), h.2.1 i k (Nat.le_refl _), h.2.1 k c (by omega)]
  obtain ⟨q, hq, hsq⟩ := h.2.2 i
  obtain ⟨s, hs, hss⟩ := h.2.2 k
  refine ⟨q * s * pk a k, Int.mul_ne_zero (Int.mul_ne_zero hq hs) hp, ?_⟩
  have t1 := sp_mul (s * pk a (k + 1)) (sp_mono (l' := rowsN a (k + 1)) (fun r hr => by rw [rows_succ]; simp [hr]) hsq)
  have t2 := sp_mul (-(q * w i k)) (sp_mono (l' := rowsN a (k + 1)) (fun r hr => by rw [rows_succ]; simp [hr]) hss)
  have t3 := sp_mul (-(q * w i k * (s * pk a k))) (sp_one (l := rowsN a (k + 1)) (r := a k) (by rw [rows_succ]; simp))
  have := sp_add (sp_add t1 t2) t3
  refine Eq.mp (congrArg _ (funext fun c => ?_)) this
  show _ = q * s * pk a k * (if c < k + 1 then 0 else fk a (k + 1) i c) - _
  rw [Int.mul_assoc (q * s), hn c]
  generalize w i c = W1
  generalize w k c = W2
  generalize w i k = W3
  generalize pk a k = P
  generalize pk a (k + 1) = P1
  generalize a i c = A1
  generalize a k c = A2
  simp only [Int.mul_sub, Int.mul_neg, Int.mul_comm, Int.mul_left_comm]
  omega
theorem vk_all : ∀ (k : Nat), (∀ t, t < k → pk a t ≠ 0) → ∃ w, Vk a k w
  | 0, _ => ⟨a, fun i c h => absurd h (by omega), fun i c _ => (fk_zero i c).symm, fun i => ⟨1, by decide, by
    have : (fun c => 1 * a i c - 1 * pk a 0 * a i c) = fun _ => (0 : Int) := funext fun c => by rw [pk_zero]; simp
    rw [this]; exact sp_zero _⟩⟩
  | k + 1, h => by
    obtain ⟨w, hw⟩ := vk_all k fun t ht => h t (by omega)
    exact vk_next hw (h k (by omega))
theorem fk_symm (hs : ∀ i j, a i j = a j i) : ∀ (k : Nat), (∀ t, t < k → pk a t ≠ 0) → ∀ i j, k ≤ i → k ≤ j → fk a k i j = fk a k j i
  | 0, _, i, j, _, _ => by rw [fk_zero, fk_zero, hs]
  | k + 1, h, i, j, hi, hj => by
    obtain ⟨w, hw⟩ := vk_all k fun t ht => h t (by omega)
    have ih := fk_symm hs k fun t ht => h t (by omega)
    have e1 := fk_next hw (h k (by omega)) i j (by omega)
    have e2 := fk_next hw (h k (by omega)) j i (by omega)
    rw [ih i j (by omega) (by omega), ih i k (by omega) (Nat.le_refl _), ih k j (Nat.le_refl _) (by omega), Int.mul_comm (fk a k k i)] at e1
    exact Int.eq_of_mul_eq_mul_left (h k (by omega)) (e1.symm.trans e2)
/-- No entry is large. -/
theorem fk_bd {B : Int} (hs : ∀ i j, a i j = a j i) {k i j : Nat} (h : ∀ t, t < k → pk a t ≠ 0) (hp : 0 < pk a k) (hi : k ≤ i) (hj : k ≤ j) (hij : i ≠ j → 0 ≤ dm a (List.range k ++ [j, i])) (b1 : 0 ≤ fk a k i i ∧ fk a k i i ≤ B) (b2 : 0 ≤ fk a k j j ∧ fk a k j j ≤ B) : -B ≤ fk a k i j ∧ fk a k i j ≤ B := by
  by_cases e : i = j
  · subst e; omega
  · obtain ⟨w, hw⟩ := vk_all k h
    have h1 := vk_dt hw (by omega) i j j i hj hi
    have h2 : dt (a i :: a j :: rowsN a k) (List.range k ++ [j, i]) = dm a (List.range k ++ [j, i]) := by unfold dm rowsN; simp
    rw [h2, fk_symm hs k h j i hj hi] at h1
    have h3 : 0 ≤ pk a k * dm a (List.range k ++ [j, i]) := Int.mul_nonneg (by omega) (hij e)
    have h4 : fk a k i i * fk a k j j ≤ B * B := Int.mul_le_mul b1.2 b2.2 b2.1 (by omega)
    generalize fk a k i j = X at *
    have h5 : X * X ≤ B * B := by omega
    constructor
    · apply Classical.byContradiction; intro hn
      have : (B + 1) * (B + 1) ≤ (-X) * (-X) := Int.mul_le_mul (by omega) (by omega) (by omega) (by omega)
      rw [Int.neg_mul_neg] at this
      have e2 : (B + 1) * (B + 1) = B * B + 2 * B + 1 := by rw [Int.add_mul, Int.mul_add]; omega
      omega
    · apply Classical.byContradiction; intro hn
      have : (B + 1) * (B + 1) ≤ X * X := Int.mul_le_mul (by omega) (by omega) (by omega) (by omega)
      have e2 : (B + 1) * (B + 1) = B * B + 2 * B + 1 := by rw [Int.add_mul, Int.mul_add]; omega
      omega
end
end Go.Proofs.Ytcoikcnijaniaaa.barP

/- The rounds of exact division over a graph's matrix, without the program: what they come to. -/
namespace Go.Proofs.Ytcoikcnijaniaaa.barQ
open gridP gridQ bitP mazeP mazeQ forest deadP detP trsP barP
set_option linter.unusedVariables false

/-- What stands at a place after k rounds; the divisor of a round. -/
def bz (a : Nat → Nat → Int) : Nat → Nat → Nat → Int
  | 0, i, j => a i j
  | k + 1, i, j => if k < i ∧ k < j then (bz a k i j * bz a k k k - bz a k i k * bz a k k j).tdiv (match k with | 0 => 1 | k' + 1 => bz a k' k' k') else bz a k i j
def bv (a : Nat → Nat → Int) : Nat → Int
  | 0 => 1
  | k + 1 => bz a k k k
theorem bz_succ (a : Nat → Nat → Int) (k i j : Nat) : bz a (k + 1) i j = if k < i ∧ k < j then (bz a k i j * bz a k k k - bz a k i k * bz a k k j).tdiv (bv a k) else bz a k i j := by
  cases k <;> rfl
/-- The result: 0 where a pivot is. -/
def brZ (a : Nat → Nat → Int) (n : Nat) : Int := if n = 0 then 1 else if (List.range (n - 1)).any (fun k => bz a k k k == 0) = true then 0 else bz a (n - 1) (n - 1) (n - 1)

section
variable {a : Nat → Nat → Int}
theorem bz_is : ∀ (k : Nat), (∀ t, t ≤ k → pk a t ≠ 0) → (∀ i j, k ≤ i → k ≤ j → bz a k i j = fk a k i j) ∧ bv a k = pk a k
  | 0, _ => ⟨fun i j _ _ => (fk_zero i j).symm, rfl⟩
  | k + 1, h => by
    obtain ⟨ih, ihv⟩ := bz_is k fun t ht => h t (by omega)
    obtain ⟨w, hw⟩ := vk_all k fun t ht => h t (by omega)
    refine ⟨fun i j hi hj => ?_, by show bz a k k k = _; rw [ih k k (Nat.le_refl _) (Nat.le_refl _), fk_pk]⟩
    rw [bz_succ, if_pos ⟨by omega, by omega⟩, ihv, ih i j (by omega) (by omega), ih k k (Nat.le_refl _) (Nat.le_refl _), ih i k (by omega) (Nat.le_refl _), ih k j (Nat.le_refl _) (by omega), fk_pk, fk_next hw (h k (by omega)) i j (by omega)]
    exact Int.mul_tdiv_cancel_left _ (h k (by omega))
/-- No pivot is 0 in the rounds before. -/
theorem pk_ne : ∀ {k : Nat}, (∀ t, t < k → bz a t t t ≠ 0) → ∀ t, t ≤ k → pk a t ≠ 0
  | 0, _, t, ht => by rw [show t = 0 by omega, pk_zero]; decide
  | k + 1, h, t, ht => by
    have ih := pk_ne (k := k) fun t ht => h t (by omega)
    by_cases e : t = k + 1
    · subst e
      have h1 := (bz_is k ih).1 k k (Nat.le_refl _) (Nat.le_refl _)
      rw [fk_pk] at h1
      rw [← h1]; exact h k (by omega)
    · exact ih t (by omega)
end

/-! ### a graph's matrix -/
section
variable {G : Nat} {u v : Nat → Nat} {a : Nat → Nat → Int} {E : Nat → Bool} {w : Nat → Nat} {n : Nat}
theorem map_nodup {l : List Nat} (hl : l.Nodup) (hw : ∀ i j, i ∈ l → j ∈ l → w i = w j → i = j) : (l.map w).Nodup := by
  induction l with
  | nil => simp
  | cons x l ih =>
    have h := List.nodup_cons.1 hl
    rw [List.map_cons, List.nodup_cons]
    refine ⟨fun hm => ?_, ih h.2 fun i j hi hj => hw i j (by simp [hi]) (by simp [hj])⟩
    obtain ⟨y, hy, e⟩ := List.mem_map.1 hm
    exact h.1 ((hw y x (by simp [hy]) (by simp) e) ▸ hy)
theorem graph_dm (ha : ∀ i j, i < n → j < n → a i j = lap G u v E (w i) (w j)) {J : List Nat} (hJ : ∀ i ∈ J, i < n) : dm a J = dm (lap G u v E) (J.map w) := by
  rw [← dm_map]
  exact dm_congr fun i hi j hj => ha i j (hJ i hi) (hJ j hj)
/-- In every round that comes: what stands there, and that it is not large. -/
theorem graph_bz (hw : ∀ i j, i < n → j < n → w i = w j → i = j) (ha : ∀ i j, a i j = lap G u v E (w i) (w j)) {k : Nat} (hk : k ≤ n) (h : ∀ t, t < k → bz a t t t ≠ 0) {i j : Nat} (hi : k ≤ i) (hj : k ≤ j) (hin : i < n) (hjn : j < n) :
    bz a k i j = fk a k i j ∧ -(2 ^ G) ≤ bz a k i j ∧ bz a k i j ≤ 2 ^ G ∧ bv a k = pk a k ∧ 0 < pk a k := by
  have hp := pk_ne h
  obtain ⟨e1, e2⟩ := bz_is k hp
  have hnd : ∀ J : List Nat, J.Nodup → (∀ i ∈ J, i < n) → (J.map w).Nodup := fun J hJ hm => map_nodup hJ fun i j hi hj => hw i j (hm i hi) (hm j hj)
  have hb : ∀ J : List Nat, J.Nodup → (∀ i ∈ J, i < n) → 0 ≤ dm a J ∧ dm a J ≤ 2 ^ G := fun J hJ hm => by
    rw [graph_dm (n := n) (fun i j _ _ => ha i j) hm]
    exact minor_bd E (hnd J hJ hm)
  have hr : ∀ l : List Nat, l.Nodup → (∀ x ∈ l, k ≤ x ∧ x < n) → (List.range k ++ l).Nodup ∧ ∀ x ∈ List.range k ++ l, x < n := fun l hl hm => by
    refine ⟨List.nodup_append.2 ⟨List.nodup_range, hl, fun x hx y hy e => ?_⟩, fun x hx => ?_⟩
    · have := List.mem_range.1 hx; have := (hm y hy).1; omega
    · rcases List.mem_append.1 hx with h | h
      · have := List.mem_range.1 h; omega
      · exact (hm x h).2
  have hpk : 0 < pk a k := by
    have := (hb (List.range k) List.nodup_range fun x hx => by have := List.mem_range.1 hx; omega).1
    have h2 := hp k (Nat.le_refl _)
    unfold pk at h2 ⊢
    omega
  have b : ∀ i, k ≤ i → i < n → 0 ≤ fk a k i i ∧ fk a k i i ≤ 2 ^ G := fun i hi hin => by
    rw [fk_dm]
    obtain ⟨h1, h2⟩ := hr [i] (by simp) (fun x hx => by rw [List.mem_singleton.1 hx]; exact ⟨hi, hin⟩)
    exact hb _ h1 h2
  have hbd := fk_bd (a := a) (B := 2 ^ G) (fun i j => by rw [ha, ha, lap_symm]) (k := k) (i := i) (j := j) (fun t ht => hp t (by omega)) hpk hi hj (fun hij => by
    obtain ⟨h1, h2⟩ := hr [j, i] (by simp; omega) (fun x hx => by simp at hx; omega)
    exact (hb _ h1 h2).1) (b i hi hin) (b j hj hjn)
  rw [e1 i j hi hj]
  exact ⟨rfl, hbd.1, hbd.2, e2, hpk⟩
/-- The result is the minor. -/
theorem graph_br (hw : ∀ i j, i < n → j < n → w i = w j → i = j) (ha : ∀ i j, a i j = lap G u v E (w i) (w j)) : brZ a n = dm (lap G u v E) ((List.range n).map w) := by
  have hm : ∀ k, k ≤ n → ∀ i ∈ List.range k, i < n := fun k hk i hi => by have := List.mem_range.1 hi; omega
  have hnd : ∀ k, k ≤ n → ((List.range k).map w).Nodup := fun k hk => map_nodup List.nodup_range fun i j hi hj => hw i j (hm k hk i hi) (hm k hk j hj)
  unfold brZ
  by_cases h0 : n = 0
  · subst h0; rfl
  · rw [if_neg h0]
    by_cases hz : (List.range (n - 1)).any (fun k => bz a k k k == 0) = true
    · rw [if_pos hz]
      -- the first pivot that is 0
      obtain ⟨k, hk, hkz, hmin⟩ : ∃ k, k < n - 1 ∧ bz a k k k = 0 ∧ ∀ t, t < k → bz a t t t ≠ 0 := by
        obtain ⟨k, hk0, hkz0⟩ := List.any_eq_true.1 hz
        have hk := List.mem_range.1 hk0
        have hkz : bz a k k k = 0 := by simpa using hkz0
        clear hz hk0 hkz0
        induction k using Nat.strongRecOn with
        | ind k ih =>
          by_cases hex : ∃ t, t < k ∧ bz a t t t = 0
          · obtain ⟨t, ht, htz⟩ := hex
            exact ih t ht (by omega) htz
          · exact ⟨k, hk, hkz, fun t ht e => hex ⟨t, ht, e⟩⟩
      have h1 := graph_bz hw ha (k := k) (by omega) hmin (i := k) (j := k) (Nat.le_refl _) (Nat.le_refl _) (by omega) (by omega)
      rw [h1.1, fk_pk] at hkz
      unfold pk at hkz
      rw [graph_dm (n := n) (fun i j _ _ => ha i j) (hm (k + 1) (by omega))] at hkz
      refine (minor_zero (hnd n (Nat.le_refl _)) (hnd (k + 1) (by omega)) (fun x hx => ?_) hkz).symm
      obtain ⟨i, hi, rfl⟩ := List.mem_map.1 hx
      exact List.mem_map.2 ⟨i, List.mem_range.2 (by have := List.mem_range.1 hi; omega), rfl⟩
    · rw [if_neg hz]
      have hne : ∀ t, t < n - 1 → bz a t t t ≠ 0 := fun t ht e => hz (List.any_eq_true.2 ⟨t, List.mem_range.2 ht, by simp [e]⟩)
      have h1 := graph_bz hw ha (k := n - 1) (by omega) hne (i := n - 1) (j := n - 1) (Nat.le_refl _) (Nat.le_refl _) (by omega) (by omega)
      rw [h1.1, fk_pk, show n - 1 + 1 = n by omega]
      unfold pk
      exact graph_dm (n := n) (fun i j _ _ => ha i j) (hm n (Nat.le_refl _))
end
end Go.Proofs.Ytcoikcnijaniaaa.barQ

/- Square matrices, without the program: which are valid, a row and a column left out, the determinant row by row over the sets of columns that are used. -/
namespace Go.Proofs.Ytcoikcnijaniaaa.matP
open gridP gridQ bitP mazeP mazeQ forest deadP detP trsP barP
set_option linter.unusedVariables false

/-! ### valid matrices -/
def abS (l : List Int) : Int := (l.map fun z => max z (-z)).sum
def rowB (n : Nat) (l : List Int) : Bool := decide (l.length = n) && l.all (fun z => decide (-16 ≤ z ∧ z ≤ 16)) && decide (abS l ≤ 16)
def sqB (ls : List (List Int)) : Bool := ls.all (rowB ls.length) && decide (ls.length ≤ 16)
theorem abS_next {l : List Int} {k : Nat} {z : Int} (h : l[k]? = some z) : abS (l.take (k + 1)) = abS (l.take k) + max z (-z) := by
  unfold abS
  rw [List.take_add_one, h]; simp
theorem abS_bd : ∀ {l : List Int}, (∀ z ∈ l, -16 ≤ z ∧ z ≤ 16) → 0 ≤ abS l ∧ abS l ≤ 16 * (l.length : Int)
  | [], _ => by simp [abS]
  | z :: l, h => by
    have h1 := h z (by simp)
    have ih := abS_bd (l := l) (fun y hy => h y (by simp [hy]))
    have e : abS (z :: l) = max z (-z) + abS l := by simp [abS]
    rw [e, List.length_cons]
    have : 0 ≤ max z (-z) ∧ max z (-z) ≤ 16 := by
      rw [Int.max_def]; split <;> omega
    omega
theorem sq_len {ls : List (List Int)} (h : sqB ls = true) : ls.length ≤ 16 ∧ ∀ l ∈ ls, l.length = ls.length ∧ ∀ z ∈ l, -16 ≤ z ∧ z ≤ 16 := by
  unfold sqB at h
  rw [Bool.and_eq_true, List.all_eq_true] at h
  refine ⟨of_decide_eq_true h.2, fun l hl => ?_⟩
  have h1 := h.1 l hl
  unfold rowB at h1
  rw [Bool.and_eq_true, Bool.and_eq_true, List.all_eq_true] at h1
  exact ⟨of_decide_eq_true h1.1.1, fun z hz => of_decide_eq_true (h1.1.2 z hz)⟩
theorem sq_bad {ls : List (List Int)} {l : List Int} (hl : l ∈ ls) (h : rowB ls.length l = false) : sqB ls = false := by
  unfold sqB
  rw [← Bool.not_eq_true, Bool.and_eq_true, List.all_eq_true]
  rintro ⟨h1, -⟩
  rw [h1 l hl] at h; cases h
theorem row_bad {n : Nat} {l : List Int} {z : Int} (hz : z ∈ l) (h : ¬ (-16 ≤ z ∧ z ≤ 16)) : rowB n l = false := by
  unfold rowB
  rw [← Bool.not_eq_true, Bool.and_eq_true, Bool.and_eq_true, List.all_eq_true]
  rintro ⟨⟨-, h1⟩, -⟩
  exact h (of_decide_eq_true (h1 z hz))
/-- A row and a column are left out. -/
def woL (ls : List (List Int)) (k : Int) : List (List Int) := if sqB ls = true ∧ 0 ≤ k ∧ k < ls.length then (ls.eraseIdx k.toNat).map (fun l => l.eraseIdx k.toNat) else []
theorem woL_len (ls : List (List Int)) (k : Int) : (woL ls k).length ≤ 15 ∧ ∀ l ∈ woL ls k, l.length ≤ 15 := by
  unfold woL
  split
  · rename_i h
    obtain ⟨h1, h2⟩ := sq_len h.1
    refine ⟨?_, fun l hl => ?_⟩
    · rw [List.length_map, List.length_eraseIdx]; split <;> omega
    · obtain ⟨m, hm, rfl⟩ := List.mem_map.1 hl
      have hm' := List.mem_of_mem_eraseIdx hm
      have := (h2 m hm').1
      rw [List.length_eraseIdx]; split <;> omega
  · simp
/-- The matrix as a function. -/
def mfn (ls : List (List Int)) (i j : Nat) : Int := (ls.getD i []).getD j 0

/-! ### wraparound -/
open Go.RowKit
theorem wrap_shift (x q : Int) : wrap64 (x + 18446744073709551616 * q) = wrap64 x := by unfold wrap64; omega
theorem wrap_form (x : Int) : ∃ q, wrap64 x = x + 18446744073709551616 * q := ⟨-((x + 9223372036854775808) / 18446744073709551616), by unfold wrap64; omega⟩
theorem wrap_add (x y : Int) : wrap64 (wrap64 x + y) = wrap64 (x + y) := by
  obtain ⟨q, h⟩ := wrap_form x
  rw [h, show x + 18446744073709551616 * q + y = (x + y) + 18446744073709551616 * q by omega, wrap_shift]
theorem wrap_add' (x y : Int) : wrap64 (x + wrap64 y) = wrap64 (x + y) := by rw [Int.add_comm, wrap_add, Int.add_comm]
theorem wrap_mul (x y : Int) : wrap64 (wrap64 x * y) = wrap64 (x * y) := by
  obtain ⟨q, h⟩ := wrap_form x
  rw [h, Int.add_mul, Int.mul_assoc, wrap_shift]
theorem wrap_mul' (x y : Int) : wrap64 (x * wrap64 y) = wrap64 (x * y) := by rw [Int.mul_comm, wrap_mul, Int.mul_comm]
theorem wrap_neg (x : Int) : wrap64 (- wrap64 x) = wrap64 (-x) := by
  obtain ⟨q, h⟩ := wrap_form x
  rw [h, show -(x + 18446744073709551616 * q) = -x + 18446744073709551616 * (-q) by omega, wrap_shift]
theorem wrap_twice (x : Int) : wrap64 (wrap64 x) = wrap64 x := by have := wrap_add x 0; simpa using this
theorem wrap_zero {x : Int} (h : wrap64 x = 0) (y z : Int) : wrap64 (z + x * y) = wrap64 z := by
  have := wrap_mul x y
  rw [h, Int.zero_mul] at this
  rw [← wrap_add', ← this, wrap_add']; simp
theorem wrap_bd (x : Int) : -9223372036854775808 ≤ wrap64 x ∧ wrap64 x ≤ 9223372036854775807 := by unfold wrap64; omega

/-! ### a row expanded as a sum -/
def aft (cs : List Nat) (c : Nat) : Nat := cs.length - 1 - cs.idxOf c
theorem io_sum (r : Nat → Int) : ∀ {cs : List Nat} (f : List Nat → Int), cs.Nodup → io r f cs = (cs.map fun c => sg (aft cs c) * r c * f (cs.erase c)).sum
  | [], f, _ => rfl
  | c :: cs, f, h => by
    have h2 := List.nodup_cons.1 h
    show sg cs.length * r c * f cs + io r (fun l => f (c :: l)) cs = _
    rw [io_sum r (fun l => f (c :: l)) h2.2, List.map_cons, List.sum_cons]
    congr 1
    · simp [aft]
    · congr 1
      refine List.map_congr_left fun d hd => ?_
      have hne : c ≠ d := by rintro rfl; exact h2.1 hd
      have e1 : aft (c :: cs) d = aft cs d := by
        unfold aft
        have : (c :: cs).idxOf d = cs.idxOf d + 1 := by rw [List.idxOf_cons, beq_eq_false_iff_ne.2 hne]; rfl
        rw [this, List.length_cons]; omega
      have e2 : (c :: cs).erase d = c :: cs.erase d := by rw [List.erase_cons_tail (by simpa using hne)]
      rw [e1, e2]

/-! ### sets of columns -/
def cols (n s : Nat) : List Nat := (List.range n).filter fun k => decide (bt s k = 1)
theorem cols_nodup (n s : Nat) : (cols n s).Nodup := List.Pairwise.filter _ List.nodup_range
theorem cols_len (s : Nat) : ∀ n, (cols n s).length = pcN s n
  | 0 => rfl
  | n + 1 => by
    have := cols_len s n
    unfold cols at this ⊢
    rw [List.range_succ, List.filter_append, List.length_append, this]
    have hb := bt_le s n
    show pcN s n + _ = pcN s n + bt s n
    by_cases h : bt s n = 1
    · rw [List.filter_cons_of_pos (by simp [h])]; simp [h]
    · rw [List.filter_cons_of_neg (by simp [h])]
      simp; omega
theorem cols_mem {n s k : Nat} : k ∈ cols n s ↔ k < n ∧ bt s k = 1 := by unfold cols; simp
theorem filter_congr' {p q : Nat → Bool} : ∀ {l : List Nat}, (∀ k ∈ l, p k = q k) → l.filter p = l.filter q
  | [], _ => rfl
  | k :: l, h => by
    rw [List.filter_cons, List.filter_cons, h k (by simp), filter_congr' (fun j hj => h j (by simp [hj]))]
theorem cols_erase {n s k : Nat} (hk : bt s k = 1) : (cols n s).erase k = cols n (s - 2 ^ k) := by
  obtain ⟨h1, h2, h3⟩ := bt_take hk
  rw [(cols_nodup n s).erase_eq_filter]
  unfold cols
  rw [List.filter_filter]
  refine filter_congr' fun j hj => ?_
  have hb := bt_add h2 j
  rw [h3] at hb
  rw [Bool.eq_iff_iff]
  simp only [Bool.and_eq_true, decide_eq_true_iff, bne_iff_ne, ne_eq]
  rw [hb]
  by_cases e : j = k
  · subst e; simp [h2]
  · simp [e]
/-- How many columns of a set stand behind one. -/
def hi (n s k : Nat) : Nat := pcN s n - pcN s (k + 1)
theorem cols_split {n s k : Nat} (hk : k < n) (hb : bt s k = 1) : ∃ ys, cols n s = cols k s ++ k :: ys := by
  obtain ⟨d, rfl⟩ : ∃ d, n = k + 1 + d := ⟨n - k - 1, by omega⟩
  unfold cols
  rw [List.range_add, List.range_succ, List.filter_append, List.filter_append, List.filter_cons_of_pos (by simp [hb]), List.filter_nil]
  refine ⟨List.filter (fun k => decide (bt s k = 1)) ((List.range d).map (fun x => k + 1 + x)), ?_⟩
  rw [List.append_assoc]; rfl
theorem aft_cols {n s k : Nat} (hk : k < n) (hb : bt s k = 1) : aft (cols n s) k = hi n s k := by
  obtain ⟨ys, h⟩ := cols_split hk hb
  have h1 := cols_len s n
  have h2 := cols_len s k
  have h3 : k ∉ cols k s := fun hm => by have := (cols_mem.1 hm).1; omega
  have h4 : (cols n s).idxOf k = (cols k s).length := by rw [h, List.idxOf_append, if_neg h3]; simp
  unfold aft hi
  rw [h4, h1, h2]
  show _ = pcN s n - (pcN s k + bt s k)
  omega

/-! ### row by row -/
section
variable (a : Nat → Nat → Int) (n : Nat)
/-- The signed sum over the ways to choose the columns of a set. -/
def dsN (s : Nat) : Int := dt (rowsN a (pcN s n)) (cols n s)
def term (t k : Nat) : Int := sg (hi n t k) * a (pcN t n - 1) k * dsN a n (t - 2 ^ k)
/-- What was added up for a set after the sources below S, and the columns from κ on of S. -/
def acc (t S κ : Nat) : Int := if t = 0 then 1 else ((List.range n).map fun k => if bt t k = 1 ∧ (t - 2 ^ k < S ∨ (t - 2 ^ k = S ∧ κ ≤ k)) then term a n t k else 0).sum
end
section
variable {a : Nat → Nat → Int} {n : Nat}
theorem pc_take {t k : Nat} (hk : k < n) (h : bt t k = 1) : pcN t n = pcN (t - 2 ^ k) n + 1 := by
  obtain ⟨h1, h2, h3⟩ := bt_take h
  have := pc_add h2 hk
  rw [h3] at this; exact this
theorem ds_zero : dsN a n 0 = 1 := by
  have h1 : pcN 0 n = 0 := by
    induction n with
    | zero => rfl
    | succ n ih => rw [pcN, ih]; simp
  unfold dsN
  rw [h1]; rfl
theorem filter_sum (p : Nat → Bool) (f : Nat → Int) : ∀ l : List Nat, ((l.filter p).map f).sum = (l.map fun k => if p k = true then f k else 0).sum
  | [] => rfl
  | k :: l => by
    rw [List.filter_cons]
    simp only [List.map_cons, List.sum_cons]
    rw [← filter_sum p f l]
    split <;> simp
theorem ds_sum {t : Nat} (ht : 0 < pcN t n) : dsN a n t = ((List.range n).map fun k => if bt t k = 1 then term a n t k else 0).sum := by
  obtain ⟨m, hm⟩ : ∃ m, pcN t n = m + 1 := ⟨pcN t n - 1, by omega⟩
  unfold dsN
  rw [hm, rows_succ]
  show io (a m) (dt (rowsN a m)) (cols n t) = _
  rw [io_sum _ _ (cols_nodup n t)]
  unfold cols
  rw [filter_sum]
  congr 1
  refine List.map_congr_left fun k hk => ?_
  have hk := List.mem_range.1 hk
  by_cases h : bt t k = 1
  · rw [if_pos (by simp [h]), if_pos h]
    have h1 := aft_cols hk h
    have h2 := cols_erase (n := n) h
    unfold cols at h1 h2
    rw [h1, h2]
    unfold term dsN
    have h3 := pc_take (n := n) hk h
    rw [hm, Nat.add_sub_cancel, show pcN (t - 2 ^ k) n = m by omega]; rfl
  · rw [if_neg (by simp [h]), if_neg h]
theorem pos_pc {t : Nat} (ht : t < 2 ^ n) (h0 : t ≠ 0) : 0 < pcN t n := by
  apply Nat.pos_of_ne_zero
  intro h
  exact h0 (zero_of_bits ht (pc_none h))
/-- All sources were there. -/
theorem acc_all {t S κ : Nat} (ht : t < 2 ^ n) (h : t ≤ S) : acc a n t S κ = dsN a n t := by
  unfold acc
  by_cases h0 : t = 0
  · rw [if_pos h0, h0, ds_zero]
  · rw [if_neg h0, ds_sum (pos_pc ht h0)]
    congr 1
    refine List.map_congr_left fun k _ => ?_
    by_cases hb : bt t k = 1
    · have := (bt_take hb).1
      have hp : 0 < 2 ^ k := Nat.pow_pos (by decide)
      rw [if_pos hb, if_pos ⟨hb, .inl (by omega)⟩]
    · rw [if_neg hb, if_neg (fun h => hb h.1)]
theorem acc_start (t : Nat) : acc a n t 0 n = if t = 0 then 1 else 0 := by
  unfold acc
  split
  · rfl
  · exact sum_zero fun k hk => if_neg (by have := List.mem_range.1 hk; omega)
theorem acc_turn (t S : Nat) : acc a n t S 0 = acc a n t (S + 1) n := by
  unfold acc
  split
  · rfl
  · congr 1
    refine List.map_congr_left fun k hk => ?_
    have := List.mem_range.1 hk
    by_cases h : bt t k = 1 ∧ (t - 2 ^ k < S ∨ (t - 2 ^ k = S ∧ 0 ≤ k))
    · rw [if_pos h, if_pos ⟨h.1, .inl (by omega)⟩]
    · rw [if_neg h, if_neg (fun h' => h ⟨h'.1, by omega⟩)]
/-- A column of the source. -/
theorem acc_step {t S κ : Nat} (hκ : κ < n) : acc a n t S κ = acc a n t S (κ + 1) + (if bt S κ = 0 ∧ t = S + 2 ^ κ then term a n t κ else 0) := by
  unfold acc
  by_cases h0 : t = 0
  · subst h0
    have hp : 0 < 2 ^ κ := Nat.pow_pos (by decide)
    rw [if_pos rfl, if_pos rfl, if_neg (by omega)]; simp
  · rw [if_neg h0, if_neg h0]
    have h1 := sum_del (e := κ) (f := fun k => if bt t k = 1 ∧ (t - 2 ^ k < S ∨ (t - 2 ^ k = S ∧ κ ≤ k)) then term a n t k else 0)
      (f' := fun k => if k = κ then 0 else if bt t k = 1 ∧ (t - 2 ^ k < S ∨ (t - 2 ^ k = S ∧ κ ≤ k)) then term a n t k else 0) (by simp) hκ (fun g _ hg => by simp [hg])
    have h2 := sum_del (e := κ) (f := fun k => if bt t k = 1 ∧ (t - 2 ^ k < S ∨ (t - 2 ^ k = S ∧ κ + 1 ≤ k)) then term a n t k else 0)
      (f' := fun k => if k = κ then 0 else if bt t k = 1 ∧ (t - 2 ^ k < S ∨ (t - 2 ^ k = S ∧ κ ≤ k)) then term a n t k else 0) (by simp) hκ (fun g _ hg => by
        simp only [hg, if_false]
        by_cases hc : bt t g = 1 ∧ (t - 2 ^ g < S ∨ (t - 2 ^ g = S ∧ κ ≤ g))
        · rw [if_pos hc, if_pos ⟨hc.1, by omega⟩]
        · rw [if_neg hc, if_neg (fun h' => hc ⟨h'.1, by omega⟩)])
    rw [h1, h2]
    have hp : 0 < 2 ^ κ := Nat.pow_pos (by decide)
    by_cases hb : bt t κ = 1
    · obtain ⟨b1, b2, b3⟩ := bt_take hb
      by_cases hs : t - 2 ^ κ = S
      · have hs2 : t = S + 2 ^ κ := by omega
        rw [if_pos ⟨hb, .inr ⟨hs, Nat.le_refl _⟩⟩, if_neg (by omega), if_pos ⟨by rw [← hs]; exact b2, hs2⟩]; omega
      · have hs2 : ¬ (bt S κ = 0 ∧ t = S + 2 ^ κ) := by rintro ⟨_, h⟩; omega
        rw [if_neg hs2]
        by_cases hl : t - 2 ^ κ < S
        · rw [if_pos ⟨hb, .inl hl⟩, if_pos ⟨hb, .inl hl⟩]; omega
        · rw [if_neg (by omega), if_neg (by omega)]; omega
    · have hs2 : ¬ (bt S κ = 0 ∧ t = S + 2 ^ κ) := by
        rintro ⟨h, rfl⟩
        have := bt_add h κ
        rw [if_pos rfl] at this
        exact hb this
      rw [if_neg (fun h => hb h.1), if_neg (fun h => hb h.1), if_neg hs2]; omega
/-- Nothing comes from a source whose sum is 0, and nothing from the full set. -/
theorem acc_skip {t S : Nat} (hS : S < 2 ^ n) (h : (∀ k, k < n → bt S k = 1) ∨ Go.RowKit.wrap64 (dsN a n S) = 0) : ∀ {κ : Nat}, κ ≤ n → Go.RowKit.wrap64 (acc a n t S κ) = Go.RowKit.wrap64 (acc a n t S n) := by
  intro κ hκ
  obtain ⟨d, hd⟩ : ∃ d, n = κ + d := ⟨n - κ, by omega⟩
  induction d generalizing κ with
  | zero => rw [show κ = n by omega]
  | succ d ih =>
    rw [acc_step (by omega), ← ih (κ := κ + 1) (by omega) (by omega)]
    by_cases hc : bt S κ = 0 ∧ t = S + 2 ^ κ
    · rw [if_pos hc]
      rcases h with h | h
      · have := h κ (by omega); omega
      · unfold term
        rw [show t - 2 ^ κ = S by omega, Int.mul_comm (sg _ * _)]
        exact wrap_zero h _ _
    · rw [if_neg hc]; simp
theorem ds_full (hn : ∀ k, k < n → bt (2 ^ n - 1) k = 1) : dsN a n (2 ^ n - 1) = dm a (List.range n) := by
  have h1 : cols n (2 ^ n - 1) = List.range n := by
    unfold cols
    rw [List.filter_eq_self]
    intro k hk
    simp [hn k (List.mem_range.1 hk)]
  have h2 : pcN (2 ^ n - 1) n = n := by rw [← cols_len, h1]; simp
  unfold dsN dm
  rw [h1, h2]; rfl
end
/-- The determinant of a valid matrix, as it wraps around. -/
def deZ (ls : List (List Int)) : Int := if sqB ls = true then Go.RowKit.wrap64 (dm (mfn ls) (List.range ls.length)) else 0
end Go.Proofs.Ytcoikcnijaniaaa.matP
