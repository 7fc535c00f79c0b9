/- Determinants, without the program: expanding a row is a contraction; contractions anticommute. A list of rows begins with the last one. -/
import Derived.Test.YthgnhamokikhkaaForest
namespace Go.Proofs.Ythgnhamokikhkaa.detP
set_option linter.unusedVariables false

/-- A sign. -/
def sg : Nat → Int
  | 0 => 1
  | n + 1 => - sg n
theorem sg_sq : ∀ n, sg n * sg n = 1
  | 0 => rfl
  | n + 1 => by have := sg_sq n; unfold sg; rw [Int.neg_mul_neg]; exact this
theorem sg_add : ∀ m n, sg (m + n) = sg m * sg n
  | 0, n => by simp [sg]
  | m + 1, n => by rw [show m + 1 + n = (m + n) + 1 by omega]; simp only [sg]; rw [sg_add m n, Int.neg_mul]
/-- A row is expanded: each column of the list is left out once. -/
def io (r : Nat → Int) (f : List Nat → Int) : List Nat → Int
  | [] => 0
  | c :: cs => sg cs.length * r c * f cs + io r (fun l => f (c :: l)) cs
theorem io_addf (r : Nat → Int) : ∀ (cs : List Nat) (f g : List Nat → Int), io r (fun l => f l + g l) cs = io r f cs + io r g cs
  | [], _, _ => rfl
  | c :: cs, f, g => by
    unfold io
    rw [io_addf r cs (fun l => f (c :: l)) (fun l => g (c :: l)), Int.mul_add]; omega
theorem io_mulf (r : Nat → Int) (z : Int) : ∀ (cs : List Nat) (f : List Nat → Int), io r (fun l => z * f l) cs = z * io r f cs
  | [], _ => by simp [io]
  | c :: cs, f => by
    unfold io
    rw [io_mulf r z cs (fun l => f (c :: l)), Int.mul_add, Int.mul_left_comm]
theorem io_add (r q : Nat → Int) : ∀ (cs : List Nat) (f : List Nat → Int), io (fun c => r c + q c) f cs = io r f cs + io q f cs
  | [], _ => rfl
  | c :: cs, f => by
    unfold io
    rw [io_add r q cs (fun l => f (c :: l)), Int.mul_add, Int.add_mul]; omega
theorem io_mul (z : Int) (r : Nat → Int) : ∀ (cs : List Nat) (f : List Nat → Int), io (fun c => z * r c) f cs = z * io r f cs
  | [], _ => by simp [io]
  | c :: cs, f => by
    unfold io
    rw [io_mul z r cs (fun l => f (c :: l)), Int.mul_add, Int.mul_left_comm (sg cs.length) z, Int.mul_assoc z]
/-- Only the entries in the columns count, and lists that are one shorter. -/
theorem io_congr {r q : Nat → Int} : ∀ {cs : List Nat} {f g : List Nat → Int}, (∀ c ∈ cs, r c = q c) → (∀ l, l.length + 1 = cs.length → (∀ c ∈ l, c ∈ cs) → f l = g l) → io r f cs = io q g cs
  | [], _, _, _, _ => rfl
  | c :: cs, f, g, h, h' => by
    unfold io
    rw [h c (by simp), h' cs rfl (fun d hd => by simp [hd]), io_congr (cs := cs) (f := fun l => f (c :: l)) (g := fun l => g (c :: l)) (fun d hd => h d (by simp [hd])) (fun l hl hc => h' (c :: l) (by simp; omega) (fun d hd => by
      rcases List.mem_cons.1 hd with e | e
      · simp [e]
      · simp [hc d e]))]
theorem io_sign (r : Nat → Int) (f : List Nat → Int) (cs : List Nat) : io r (fun l => sg l.length * f l) cs = - sg cs.length * io r f cs := by
  cases cs with
  | nil => simp [io]
  | cons c cs =>
    rw [io_congr (r := r) (q := r) (g := fun l => sg cs.length * f l) (fun _ _ => rfl) (fun l hl _ => by rw [show l.length = cs.length by simp at hl; omega]), io_mulf]
    simp [sg]
/-- Contractions anticommute. -/
theorem io_anti (r q : Nat → Int) : ∀ (cs : List Nat) (f : List Nat → Int), io r (io q f) cs = - io q (io r f) cs
  | [], _ => rfl
  | c :: cs, f => by
    have key : ∀ r q : Nat → Int, io r (io q f) (c :: cs) = sg cs.length * r c * io q f cs + (q c * (- sg cs.length * io r f cs) + io r (io q (fun l => f (c :: l))) cs) := fun r q => by
      show sg cs.length * r c * io q f cs + io r (fun l => sg l.length * q c * f l + io q (fun l' => f (c :: l')) l) cs = _
      rw [io_addf r cs (fun l => sg l.length * q c * f l), io_congr (r := r) (q := r) (f := fun l => sg l.length * q c * f l) (g := fun l => q c * (sg l.length * f l)) (fun _ _ => rfl) (fun l _ _ => by rw [← Int.mul_assoc, Int.mul_comm (sg l.length)]), io_mulf, io_sign]
    rw [key r q, key q r, io_anti r q cs (fun l => f (c :: l))]
    have e1 : sg cs.length * r c * io q f cs = - (r c * (- sg cs.length * io q f cs)) := by rw [Int.neg_mul, Int.mul_neg, Int.neg_neg, ← Int.mul_assoc, Int.mul_comm (r c)]
    have e2 : sg cs.length * q c * io r f cs = - (q c * (- sg cs.length * io r f cs)) := by rw [Int.neg_mul, Int.mul_neg, Int.neg_neg, ← Int.mul_assoc, Int.mul_comm (q c)]
    rw [e1, e2]; omega
theorem io_same (r : Nat → Int) (f : List Nat → Int) (cs : List Nat) : io r (io r f) cs = 0 := by have := io_anti r r cs f; omega
/-- A row that is 0 but in the last column. -/
theorem io_last {r : Nat → Int} {j : Nat} : ∀ {xs : List Nat} {f : List Nat → Int}, (∀ c ∈ xs, r c = 0) → io r f (xs ++ [j]) = r j * f xs
  | [], f, _ => by simp [io, sg]
  | c :: xs, f, h => by
    show sg _ * r c * f (xs ++ [j]) + io r (fun l => f (c :: l)) (xs ++ [j]) = _
    rw [h c (by simp), io_last (xs := xs) (fun d hd => h d (by simp [hd]))]; simp
/-- A row that is 0 but in one column. -/
theorem io_unit {r : Nat → Int} {j : Nat} {ys : List Nat} (hy : ∀ c ∈ ys, r c = 0) : ∀ {xs : List Nat} {f : List Nat → Int}, (∀ c ∈ xs, r c = 0) → io r f (xs ++ j :: ys) = sg ys.length * r j * f (xs ++ ys)
  | [], f, _ => by
    have h0 : ∀ (ys : List Nat) (f : List Nat → Int), (∀ c ∈ ys, r c = 0) → io r f ys = 0 := by
      intro ys
      induction ys with
      | nil => intro f _; rfl
      | cons d ys ih => intro f h; unfold io; rw [h d (by simp), ih _ (fun c hc => h c (by simp [hc]))]; simp
    show sg _ * r j * f ys + io r (fun l => f (j :: l)) ys = _
    rw [h0 ys _ hy]; simp
  | c :: xs, f, h => by
    show sg _ * r c * f (xs ++ j :: ys) + io r (fun l => f (c :: l)) (xs ++ j :: ys) = _
    rw [h c (by simp), io_unit hy (xs := xs) (fun d hd => h d (by simp [hd]))]; simp

/-- The determinant of rows (the last one first) at columns. -/
def dt : List (Nat → Int) → List Nat → Int
  | [] => fun _ => 1
  | r :: rs => io r (dt rs)
theorem dt_congr : ∀ {ps : List ((Nat → Int) × (Nat → Int))} {cs : List Nat}, (∀ p ∈ ps, ∀ c ∈ cs, p.1 c = p.2 c) → dt (ps.map (·.1)) cs = dt (ps.map (·.2)) cs
  | [], _, _ => rfl
  | p :: ps, cs, h => io_congr (h p (by simp)) fun m _ hm => dt_congr fun q hq c hc => h q (by simp [hq]) c (hm c hc)
theorem dt_add (r q : Nat → Int) : ∀ (l m : List (Nat → Int)) (cs : List Nat), dt (l ++ (fun c => r c + q c) :: m) cs = dt (l ++ r :: m) cs + dt (l ++ q :: m) cs
  | [], m, cs => io_add r q cs _
  | p :: l, m, cs => by
    show io p (dt (l ++ _ :: m)) cs = io p (dt (l ++ r :: m)) cs + io p (dt (l ++ q :: m)) cs
    rw [← io_addf]
    exact io_congr (fun _ _ => rfl) fun k _ _ => dt_add r q l m k
theorem dt_mul (z : Int) (r : Nat → Int) : ∀ (l m : List (Nat → Int)) (cs : List Nat), dt (l ++ (fun c => z * r c) :: m) cs = z * dt (l ++ r :: m) cs
  | [], m, cs => io_mul z r cs _
  | p :: l, m, cs => by
    show io p (dt (l ++ _ :: m)) cs = z * io p (dt (l ++ r :: m)) cs
    rw [← io_mulf]
    exact io_congr (fun _ _ => rfl) fun k _ _ => dt_mul z r l m k
/-- A row is moved to the end (ahead in the list). -/
theorem dt_move (r : Nat → Int) : ∀ (l m : List (Nat → Int)) (cs : List Nat), dt (l ++ r :: m) cs = sg l.length * dt (r :: (l ++ m)) cs
  | [], m, cs => by simp [sg]
  | p :: l, m, cs => by
    show io p (dt (l ++ r :: m)) cs = _ * io r (io p (dt (l ++ m))) cs
    rw [io_congr (r := p) (q := p) (g := fun k => sg l.length * io r (dt (l ++ m)) k) (fun _ _ => rfl) (fun k _ _ => dt_move r l m k), io_mulf, io_anti p r]
    show _ = - sg l.length * _
    rw [Int.mul_neg, Int.neg_mul]
theorem dt_twice {r : Nat → Int} {l : List (Nat → Int)} (h : r ∈ l) (cs : List Nat) : dt (r :: l) cs = 0 := by
  obtain ⟨a, b, rfl⟩ := List.append_of_mem h
  show io r (dt (a ++ r :: b)) cs = 0
  rw [io_congr (r := r) (q := r) (g := fun k => sg a.length * io r (dt (a ++ b)) k) (fun _ _ => rfl) (fun k _ _ => dt_move r a b k), io_mulf, io_same]; simp
/-- Two rows are exchanged. -/
theorem dt_swap (r q : Nat → Int) (l m n : List (Nat → Int)) (cs : List Nat) : dt (l ++ r :: (m ++ q :: n)) cs = - dt (l ++ q :: (m ++ r :: n)) cs := by
  have key : ∀ r q : Nat → Int, dt (l ++ r :: (m ++ q :: n)) cs = sg l.length * (sg (l.length + m.length) * io r (io q (dt (l ++ m ++ n))) cs) := fun r q => by
    rw [dt_move r l]
    congr 1
    show io r (dt (l ++ (m ++ q :: n))) cs = _
    rw [← List.append_assoc, io_congr (r := r) (q := r) (g := fun k => sg (l.length + m.length) * io q (dt (l ++ m ++ n)) k) (fun _ _ => rfl) (fun k _ _ => by rw [dt_move q (l ++ m) n k, List.length_append]; rfl), io_mulf]
  rw [key r q, key q r, io_anti r q, Int.mul_neg, Int.mul_neg]
/-- A row that the others add up to. -/
theorem dt_comb (l : List (Nat → Int)) (cs : List Nat) : ∀ (m : List (Int × (Nat → Int))), (∀ p ∈ m, p.2 ∈ l) → dt ((fun c => (m.map fun p => p.1 * p.2 c).sum) :: l) cs = 0
  | [], _ => by
    have h := dt_mul 0 (fun _ => 0) [] l cs
    simp only [List.nil_append, Int.zero_mul] at h
    simpa using h
  | p :: m, h => by
    have h1 := dt_add (fun c => p.1 * p.2 c) (fun c => (m.map fun p => p.1 * p.2 c).sum) [] l cs
    have h2 := dt_mul p.1 p.2 [] l cs
    simp only [List.nil_append] at h1 h2
    have h3 : dt ((fun c => ((p :: m).map fun p => p.1 * p.2 c).sum) :: l) cs = dt ((fun c => p.1 * p.2 c + (m.map fun p => p.1 * p.2 c).sum) :: l) cs := rfl
    rw [h3, h1, h2, dt_comb l cs m (fun q hq => h q (by simp [hq])), dt_twice (h p (by simp))]; simp
/-- Rows that add up to nothing. -/
theorem dt_sum {r : Nat → Int} {l : List (Nat → Int)} {cs : List Nat} (h : ∀ c ∈ cs, r c + (l.map fun q => q c).sum = 0) : dt (r :: l) cs = 0 := by
  have h1 := dt_comb l cs (l.map fun q => (-1, q)) (fun p hp => by obtain ⟨q, hq, rfl⟩ := List.mem_map.1 hp; exact hq)
  rw [← h1]
  refine io_congr (fun c hc => ?_) fun _ _ _ => rfl
  have h2 := h c hc
  have h3 : ∀ l : List (Nat → Int), ((l.map fun q => ((-1 : Int), q)).map fun p => p.1 * p.2 c).sum = - (l.map fun q => q c).sum := by
    intro l
    induction l with
    | nil => rfl
    | cons a l ih => simp only [List.map_cons, List.sum_cons, ih]; omega
  rw [h3]; omega

/-! ### the minor of some rows and the same columns -/
def dm (a : Nat → Nat → Int) (I : List Nat) : Int := dt (I.reverse.map a) I
theorem dm_nil (a : Nat → Nat → Int) : dm a [] = 1 := rfl
theorem dm_congr {a b : Nat → Nat → Int} {I : List Nat} (h : ∀ i ∈ I, ∀ j ∈ I, a i j = b i j) : dm a I = dm b I := by
  have := dt_congr (ps := I.reverse.map fun u => (a u, b u)) (cs := I) fun p hp c hc => by
    obtain ⟨u, hu, rfl⟩ := List.mem_map.1 hp
    exact h u (List.mem_reverse.1 hu) c hc
  simpa [dm, List.map_map, Function.comp_def] using this
/-- One is added in the diagonal. -/
theorem dm_diag (a b : Nat → Nat → Int) (v : Nat) (xs ys : List Nat) (hx : v ∉ xs) (hy : v ∉ ys) (h : ∀ i ∈ xs ++ v :: ys, ∀ j ∈ xs ++ v :: ys, a i j = b i j + if i = v ∧ j = v then 1 else 0) :
    dm a (xs ++ v :: ys) = dm b (xs ++ v :: ys) + dm b (xs ++ ys) := by
  have e : ∀ f : Nat → Nat → Int, (xs ++ v :: ys).reverse.map f = (ys.reverse.map f) ++ f v :: (xs.reverse.map f) := fun f => by simp
  have h1 : dm a (xs ++ v :: ys) = dt ((ys.reverse.map b) ++ (fun c => b v c + if c = v then 1 else 0) :: (xs.reverse.map b)) (xs ++ v :: ys) := by
    unfold dm
    rw [e]
    have hm : ∀ u, u ∈ xs ++ ys → ∀ c ∈ xs ++ v :: ys, a u c = b u c := fun u hu c hc => by
      rw [h u (by rcases List.mem_append.1 hu with h | h <;> simp [h]) c hc, if_neg]
      · simp
      · rintro ⟨rfl, _⟩; rcases List.mem_append.1 hu with h | h
        · exact hx h
        · exact hy h
    have := dt_congr (ps := (ys.reverse.map fun u => (a u, b u)) ++ (a v, fun c => b v c + if c = v then 1 else 0) :: (xs.reverse.map fun u => (a u, b u))) (cs := xs ++ v :: ys) fun p hp c hc => by
      rcases List.mem_append.1 hp with hp | hp
      · obtain ⟨u, hu, rfl⟩ := List.mem_map.1 hp
        exact hm u (List.mem_append.2 (.inr (List.mem_reverse.1 hu))) c hc
      · rcases List.mem_cons.1 hp with rfl | hp
        · show a v c = _
          rw [h v (by simp) c hc]; simp
        · obtain ⟨u, hu, rfl⟩ := List.mem_map.1 hp
          exact hm u (List.mem_append.2 (.inl (List.mem_reverse.1 hu))) c hc
    simpa [List.map_map, Function.comp_def] using this
  rw [h1, dt_add]
  have h2 : dt ((ys.reverse.map b) ++ b v :: (xs.reverse.map b)) (xs ++ v :: ys) = dm b (xs ++ v :: ys) := by unfold dm; rw [e]
  rw [h2]
  congr 1
  rw [dt_move]
  show _ * io _ (dt _) (xs ++ v :: ys) = _
  have hy' : ∀ c ∈ ys, (if c = v then (1 : Int) else 0) = 0 := fun c hc => if_neg (by rintro rfl; exact hy hc)
  have hx' : ∀ c ∈ xs, (if c = v then (1 : Int) else 0) = 0 := fun c hc => if_neg (by rintro rfl; exact hx hc)
  rw [io_unit (j := v) hy' hx']
  simp only [List.length_map, List.length_reverse]
  rw [if_pos trivial, Int.mul_one, ← Int.mul_assoc, sg_sq, Int.one_mul]
  unfold dm
  simp
/-- Rows that add up to nothing. -/
theorem dm_sum {a : Nat → Nat → Int} {I : List Nat} (hI : I ≠ []) (h : ∀ j ∈ I, (I.map fun i => a i j).sum = 0) : dm a I = 0 := by
  unfold dm
  cases hr : I.reverse with
  | nil => exact absurd (List.reverse_eq_nil_iff.1 hr) hI
  | cons u l =>
    refine dt_sum fun c hc => ?_
    have h1 := h c hc
    have h2 : (I.reverse.map fun i => a i c).sum = (I.map fun i => a i c).sum := by rw [List.map_reverse, List.sum_reverse]
    rw [h1, hr] at h2
    simpa [List.map_map, Function.comp_def] using h2
end Go.Proofs.Ythgnhamokikhkaa.detP
