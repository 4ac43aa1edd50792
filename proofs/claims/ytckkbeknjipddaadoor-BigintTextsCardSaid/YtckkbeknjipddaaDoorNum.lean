/- Plain facts on digits in a base, the lowest first. -/
import Derived.Test.YtckkbeknjipddaaDoorApp
import Derived.Test.YtckkbeknjipddaaDoorStr
namespace Go.Proofs.YtckkbeknjipddaaDoor

def val (b : Nat) : List Nat → Nat
  | [] => 0
  | d :: ds => d + b * val b ds
def Can (b : Nat) (ds : List Nat) : Prop := (∀ d ∈ ds, d < b) ∧ ds.getLast? ≠ some 0

theorem val_append (b : Nat) (xs ys : List Nat) : val b (xs ++ ys) = val b xs + b ^ xs.length * val b ys := by
  induction xs with
  | nil => simp [val]
  | cons x xs ih =>
    simp only [List.cons_append, val, ih, List.length_cons, Nat.pow_succ]
    rw [Nat.mul_add, ← Nat.mul_assoc, Nat.mul_comm b (b ^ xs.length)]; omega
theorem val_lt {b : Nat} {xs : List Nat} (h : ∀ d ∈ xs, d < b) : val b xs < b ^ xs.length := by
  induction xs with
  | nil => simp [val]
  | cons x xs ih =>
    have hx := h x (List.mem_cons_self ..)
    have := ih (fun d hd => h d (List.mem_cons_of_mem _ hd))
    simp only [val, List.length_cons, Nat.pow_succ]
    calc x + b * val b xs < b + b * val b xs := by omega
      _ = b * (val b xs + 1) := by rw [Nat.mul_add]; omega
      _ ≤ b * b ^ xs.length := Nat.mul_le_mul_left _ this
      _ = b ^ xs.length * b := Nat.mul_comm _ _
theorem can_nil (b : Nat) : Can b [] := ⟨(fun d hd => by cases hd), by simp⟩
theorem can_tail {b d : Nat} {ds : List Nat} (h : Can b (d :: ds)) : Can b ds := by
  refine ⟨fun x hx => h.1 x (List.mem_cons_of_mem _ hx), ?_⟩
  have := h.2
  cases ds with
  | nil => simp
  | cons e ds => simpa [List.getLast?_cons_cons] using this
theorem can_pos {b : Nat} {ds : List Nat} (hb : 0 < b) (h : Can b ds) (hne : ds ≠ []) : b ^ (ds.length - 1) ≤ val b ds := by
  induction ds with
  | nil => exact absurd rfl hne
  | cons d ds ih =>
    cases ds with
    | nil =>
      have h0 : d ≠ 0 := by intro e; subst e; exact h.2 rfl
      simp [val]; omega
    | cons e ds =>
      have := ih (can_tail h) (by simp)
      simp only [List.length_cons, Nat.add_sub_cancel] at this ⊢
      rw [val, Nat.pow_succ]
      calc b ^ ds.length * b = b * b ^ ds.length := Nat.mul_comm _ _
        _ ≤ b * val b (e :: ds) := Nat.mul_le_mul_left _ this
        _ ≤ d + b * val b (e :: ds) := Nat.le_add_left _ _
theorem can_zero {b : Nat} {ds : List Nat} (hb : 0 < b) (h : Can b ds) (h0 : val b ds = 0) : ds = [] := by
  cases hd : ds with
  | nil => rfl
  | cons d l =>
    have := can_pos hb h (by rw [hd]; simp)
    have := Nat.pow_pos (n := ds.length - 1) hb
    omega
theorem can_inj {b : Nat} (hb : 0 < b) {xs ys : List Nat} (hx : Can b xs) (hy : Can b ys) (h : val b xs = val b ys) : xs = ys := by
  induction xs generalizing ys with
  | nil => exact (can_zero hb hy h.symm).symm
  | cons x xs ih =>
    cases ys with
    | nil => exact can_zero hb hx h
    | cons y ys =>
      simp only [val] at h
      have h1 := hx.1 x (List.mem_cons_self ..)
      have h2 := hy.1 y (List.mem_cons_self ..)
      have e1 : x = y := by
        have := congrArg (· % b) h
        simp only [Nat.add_mul_mod_self_left] at this
        rwa [Nat.mod_eq_of_lt h1, Nat.mod_eq_of_lt h2] at this
      subst e1
      have e2 : val b xs = val b ys := Nat.eq_of_mul_eq_mul_left hb (by omega)
      rw [ih (can_tail hx) (can_tail hy) e2]
theorem can_len {b : Nat} (hb : 1 < b) {xs : List Nat} (h : Can b xs) (k : Nat) : k < xs.length ↔ b ^ k ≤ val b xs := by
  constructor
  · intro hk
    have hne : xs ≠ [] := by intro e; subst e; simp at hk
    exact Nat.le_trans (Nat.pow_le_pow_right (by omega) (by omega)) (can_pos (by omega) h hne)
  · intro hk
    have := val_lt h.1
    exact (Nat.pow_lt_pow_iff_right hb).1 (Nat.lt_of_le_of_lt hk this)

theorem trimN_val (b : Nat) (xs : List Nat) (k : Nat) (hk : k ≤ xs.length) : val b (xs.take (trimN xs k)) = val b (xs.take k) := by
  induction k with
  | zero => rfl
  | succ k ih =>
    unfold trimN
    split
    · rename_i h
      rw [ih (by omega), List.take_succ_eq_append_getElem (by omega), val_append]
      have : xs[k] = 0 := by simpa [List.getD, List.getElem?_eq_getElem (show k < xs.length by omega)] using h
      simp [val, this]
    · rfl
theorem trimN_last (xs : List Nat) (k : Nat) (hk : k ≤ xs.length) : (xs.take (trimN xs k)).getLast? ≠ some 0 := by
  induction k with
  | zero => simp [trimN]
  | succ k ih =>
    unfold trimN
    split
    · exact ih (by omega)
    · rename_i h
      rw [List.take_succ_eq_append_getElem (by omega)]
      simp only [List.getLast?_append, List.getLast?_singleton, Option.some_or]
      simpa [List.getD, List.getElem?_eq_getElem (show k < xs.length by omega)] using h
theorem trimL_val (b : Nat) (xs : List Nat) : val b (trimL xs) = val b xs := by
  unfold trimL; rw [trimN_val b xs _ (Nat.le_refl _), List.take_length]
theorem trimL_can {b : Nat} {xs : List Nat} (h : ∀ d ∈ xs, d < b) : Can b (trimL xs) :=
  ⟨fun d hd => h d (List.mem_of_mem_take hd), trimN_last xs _ (Nat.le_refl _)⟩
theorem trimL_of_can {b : Nat} (hb : 0 < b) {xs : List Nat} (h : Can b xs) : trimL xs = xs := can_inj hb (trimL_can h.1) h (trimL_val b xs)

theorem mul_val (b m : Nat) (l : List Nat) (c : Nat) : val b (mulDigs b m l c) + b ^ l.length * mulCar b m l c = val b l * m + c := by
  induction l generalizing c with
  | nil => simp [mulDigs, mulCar, val]
  | cons x l ih =>
    simp only [mulDigs, mulCar, val, List.length_cons, Nat.pow_succ]
    have h1 := ih ((x * m + c) / b)
    have h2 := Nat.div_add_mod (x * m + c) b
    calc (x * m + c) % b + b * val b (mulDigs b m l ((x * m + c) / b)) + b ^ l.length * b * mulCar b m l ((x * m + c) / b)
        = (x * m + c) % b + b * (val b (mulDigs b m l ((x * m + c) / b)) + b ^ l.length * mulCar b m l ((x * m + c) / b)) := by
          rw [Nat.mul_add, Nat.mul_comm (b ^ l.length) b, Nat.mul_assoc]; omega
      _ = (x * m + c) % b + b * (val b l * m + (x * m + c) / b) := by rw [h1]
      _ = (x + b * val b l) * m + c := by rw [Nat.mul_add, Nat.add_mul, Nat.mul_assoc]; omega
theorem mulDigs_lt {b : Nat} (hb : 0 < b) (m : Nat) (l : List Nat) (c : Nat) : ∀ d ∈ mulDigs b m l c, d < b := by
  induction l generalizing c with
  | nil => intro d hd; cases hd
  | cons x l ih =>
    intro d hd
    simp only [mulDigs, List.mem_cons] at hd
    rcases hd with rfl | hd
    · exact Nat.mod_lt _ hb
    · exact ih _ d hd
theorem mulAdd_val (b m : Nat) (l : List Nat) (c : Nat) : val b (mulAdd b m l c) = val b l * m + c := by
  have h := mul_val b m l c
  unfold mulAdd
  split
  · rename_i h0; rw [h0] at h; simpa using h
  · rw [val_append, mulDigs_len]; simpa [val] using h
theorem mulAdd_can {b m : Nat} (hm : 0 < m) (hb : m ≤ b) {l : List Nat} (hl : Can b l) {c : Nat} (hc : c < m) : Can b (mulAdd b m l c) := by
  have hcar := mulCar_lt (b := b) (m := m) (by omega) l c hl.1 hc
  unfold mulAdd
  split
  · rename_i h0
    refine ⟨mulDigs_lt (by omega) m l c, ?_⟩
    rcases List.eq_nil_or_concat l with rfl | ⟨l', d, rfl⟩
    · simp [mulDigs]
    · rw [List.concat_eq_append] at *
      rw [mulDigs_snoc, List.getLast?_append, List.getLast?_singleton]
      rw [mulCar_snoc] at h0
      have hd : d ≠ 0 := by
        intro e
        subst e
        exact hl.2 (by simp)
      simp only [Option.some_or, ne_eq, Option.some.injEq]
      have h1 : d * m + mulCar b m l' c < b := (Nat.div_eq_zero_iff_lt (by omega)).1 h0
      rw [Nat.mod_eq_of_lt h1]
      have : 0 < d * m := Nat.mul_pos (by omega) hm
      omega
  · rename_i h0
    refine ⟨fun d hd => ?_, by simp; exact h0⟩
    rcases List.mem_append.1 hd with hd | hd
    · exact mulDigs_lt (by omega) m l c d hd
    · simp at hd; subst hd; omega

/-- the value of decimal digits -/
def decVal (t : List Nat) : Nat := t.foldl (fun n c => n * 10 + (c - 48)) 0
/-- the digits in base b that come of decimal digits -/
def rep (b : Nat) (t : List Nat) : List Nat := t.foldl (fun ds c => mulAdd b 10 ds (c - 48)) []
theorem decVal_snoc (t : List Nat) (c : Nat) : decVal (t ++ [c]) = decVal t * 10 + (c - 48) := by simp [decVal]
theorem rep_snoc (b : Nat) (t : List Nat) (c : Nat) : rep b (t ++ [c]) = mulAdd b 10 (rep b t) (c - 48) := by simp [rep]
theorem rep_acc {b : Nat} (hb : 10 ≤ b) (t : List Nat) (ht : t.all digB = true) (ds : List Nat) (n : Nat) (hd : Can b ds) (hv : val b ds = n) :
    Can b (t.foldl (fun ds c => mulAdd b 10 ds (c - 48)) ds) ∧ val b (t.foldl (fun ds c => mulAdd b 10 ds (c - 48)) ds) = t.foldl (fun n c => n * 10 + (c - 48)) n := by
  induction t generalizing ds n with
  | nil => exact ⟨hd, hv⟩
  | cons c t ih =>
    simp only [List.all_cons, Bool.and_eq_true] at ht
    have hc := ht.1
    simp only [digB, Bool.and_eq_true, decide_eq_true_eq] at hc
    exact ih ht.2 _ _ (mulAdd_can (by omega) hb hd (by omega)) (by rw [mulAdd_val, hv])
theorem rep_spec {b : Nat} (hb : 10 ≤ b) (t : List Nat) (ht : t.all digB = true) : Can b (rep b t) ∧ val b (rep b t) = decVal t :=
  rep_acc hb t ht [] 0 (can_nil b) rfl
theorem dec_acc (t : List Nat) (n : Nat) : n * 10 ^ t.length ≤ t.foldl (fun n c => n * 10 + (c - 48)) n := by
  induction t generalizing n with
  | nil => simp
  | cons c t ih =>
    refine Nat.le_trans ?_ (ih (n * 10 + (c - 48)))
    rw [List.length_cons, Nat.pow_succ, Nat.mul_comm (10 ^ t.length) 10, ← Nat.mul_assoc]
    exact Nat.mul_le_mul_right _ (by omega)
theorem decVal_mono (t : List Nat) (k : Nat) : decVal (t.take k) ≤ decVal t := by
  have h : decVal t = (t.drop k).foldl (fun n c => n * 10 + (c - 48)) (decVal (t.take k)) := by
    unfold decVal
    rw [← List.foldl_append, List.take_append_drop]
  rw [h]
  refine Nat.le_trans ?_ (dec_acc _ _)
  exact Nat.le_mul_of_pos_right _ (Nat.pow_pos (by omega))
theorem decVal_low {c : Nat} {t : List Nat} (hc : 49 ≤ c) : 10 ^ t.length ≤ decVal (c :: t) := by
  unfold decVal
  rw [List.foldl_cons]
  refine Nat.le_trans ?_ (dec_acc t _)
  exact Nat.le_mul_of_pos_left _ (by omega)

/-- 2^2048, the first absolute value that is too great -/
def lim : Nat := 2 ^ 2048
theorem lim32 : 4294967296 ^ 64 = lim := by decide +kernel
theorem lim8 : 256 ^ 256 = lim := by decide +kernel
theorem lim10 : ∃ e, e = 1000 ∧ lim ≤ 10 ^ e := ⟨1000, rfl, by decide +kernel⟩
theorem long32 {xs : List Nat} (h : Can 4294967296 xs) : 64 < xs.length ↔ lim ≤ val 4294967296 xs := by
  rw [can_len (by decide) h, lim32]
theorem long8 {xs : List Nat} (h : Can 256 xs) : 256 < xs.length ↔ lim ≤ val 256 xs := by
  rw [can_len (by decide) h, lim8]
end Go.Proofs.YtckkbeknjipddaaDoor
