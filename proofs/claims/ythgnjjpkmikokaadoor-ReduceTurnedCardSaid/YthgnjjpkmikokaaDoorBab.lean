/- The walk of Points: the positions of a valid box of at most 5000 positions, row by row. -/
/- Plain mathematics: lists of positions as multisets; strictly ascending ones are determined by their positions. -/
/- The walks of slices.Equal and hood.Same on any two lists. -/
/- The walks of hood's small functions: the absolute value, the square, and the three predicates. -/
import Derived.Test.YthgnjjpkmikokaaDoorBaa
import Derived.Deep.CutRange
import Derived.Sort.Statements
namespace Go.Proofs.YthgnjjpkmikokaaDoor
open Go.RowKit

theorem Tryd.info_point : (Tryd.prog.info? 40).map (fun i => (i.zero, i.size, i.bytes)) = some (some (.agg #[.int .i64 0, .int .i64 0]), 2, 16) := by kernel_rfl

/-- append of one value of two cells within the capacity of a row of the call's own -/
theorem wpList_fit2 {P : Program} {w : World} {ops : Array Oper} {rest : List Oper} {o : Oper} {a : Act} {Q : Exit → Act → World → Prop} (hgd : o.guard = none) (s x : Operand) (t : TypeId)
    (ho : o.op = .call { callee := .builtin .append, args := #[s, x], argTypes := #[t, t] })
    (base : Nat) (e : TypeId) (i : TypeInfo) (ht : P.underlying t = some (.slice e)) (hi : P.info? e = some i) (hsize : i.size = 2)
    (g k cap : Nat) (xs : List Value) (hs : a.eval s = .slice (some ⟨g, 0, none⟩) k cap) (hown : w.ownsRow base e 2 (.slice (some ⟨g, 0, none⟩) k cap) k xs) (u v : Value)
    (hx : a.eval x = .slice (some ⟨w.heap.size, 0, none⟩) 1 1) (h1 : u.oneCell' = true) (h2 : v.oneCell' = true) (hk : k + 1 ≤ cap) (hbase : base ≤ w.heap.size)
    (h : ∀ w', w'.ownsRow base e 2 (.slice (some ⟨g, 0, none⟩) (k + 1) cap) (k + 1) (xs ++ [u, v]) → Below base w w' → wpList P ops Q rest (a.put o.dst (.slice (some ⟨g, 0, none⟩) (k + 1) cap)) w') :
    wpList P ops Q (o :: rest) a (w.alloc (.cells #[u, v] e)) := by
  refine wpList_append_fits _ hgd s x t ho base e i 2 ht hi hsize g k cap xs hs (hown.alloc _) ⟨w.heap.size, 0, none⟩ 1 1 [u, v] hx rfl ?_ ?_ hk ?_
  · intro j z hj
    match j, hj with
    | 0, hj => simp at hj; subst hj; simp [Addr.add]
    | 1, hj => simp at hj; subst hj; simp [Addr.add]
  · intro z hz; simp at hz; rcases hz with rfl | rfl <;> assumption
  · intro w' hown' hg
    exact h w' hown' (Below.grown ((Below.refl base w).alloc hbase _) hg (by simp; omega) (fun k hk => by obtain rfl := Option.some.inj hk; exact (hown.lt g rfl).1))

theorem mul_room {n m N j i : Nat} (hN : n * m = N) (hj : j < m) (hi : i < n) : j * n + i + 1 ≤ N := by
  have h := Nat.mul_le_mul_left n (show j + 1 ≤ m from hj)
  rw [Nat.mul_add, Nat.mul_one, Nat.mul_comm n j] at h
  omega

set_option maxRecDepth 100000 in
set_option maxHeartbeats 2000000 in
theorem points_any (x y : Int) (n m N : Nat) (w : World) (h : Ok x y n m) (hN : n * m = N) (h5 : N ≤ 5000) :
    Calls Tryd.prog 88 #[.agg #[.int .i64 x, .int .i64 y, .int .i64 (n : Int), .int .i64 (m : Int)]] w fun e w' => ∃ g, e = .returned (.slice (some ⟨g, 0, none⟩) N N) ∧ PReads w' w'.heap.size g N (ptF x y n) ∧ Below w.heap.size w w' := by
  obtain ⟨i0, hi, hz0, hz1, hz2⟩ := info_parts Tryd.info_point
  have R := Lib.hid (fun w => right_yes x y n m w h)
  obtain ⟨⟨a1, a2, a3, a4⟩, b1, b2, b3, b4⟩ := h
  have hn1 : 1 ≤ n := by omega
  have hm1 : 1 ≤ m := by omega
  have hN1 : 1 ≤ N := by rw [← hN]; exact Nat.mul_le_mul hn1 hm1
  have h7 : (n : Int) * (m : Int) ≤ 5000 := by
    have : ((n * m : Nat) : Int) ≤ 5000 := by rw [hN]; omega
    simpa using this
  have h8 : (n : Int) ≤ 5000 / (m : Int) := Int.le_ediv_of_mul_le (by omega) h7
  have h9 : (5000 : Int) / (m : Int) ≤ 5000 := Int.ediv_le_self _ (by decide)
  have hdw : IntKind.i64.wrap (Int.tdiv 5000 (m : Int)) = 5000 / (m : Int) := by rw [Int.tdiv_eq_ediv_of_nonneg (by decide)]; exact IntWalk.i64_in _ (by omega)
  obtain ⟨d, hd⟩ : ∃ d, d = 5000 / (m : Int) := ⟨_, rfl⟩
  rw [← hd] at h8 h9 hdw
  clear hd h7
  have hm0 : ¬ m = 0 := by omega
  have hmN : (n : Int) * (m : Int) = (N : Int) := by rw [← hN]; simp
  have K0 := Blk.new w 58 #[.int .i64 x, .int .i64 y, .int .i64 (n : Int), .int .i64 (m : Int)]
  have B0 : Below w.heap.size w (w.alloc (.cells #[.int .i64 x, .int .i64 y, .int .i64 (n : Int), .int .i64 (m : Int)] 58)) := (Below.refl w.heap.size w).alloc (Nat.le_refl _) _
  have S0 : w.heap.size + 1 ≤ (w.alloc (.cells #[.int .i64 x, .int .i64 y, .int .i64 (n : Int), .int .i64 (m : Int)] 58)).heap.size := by simp
  go_enter Tryd.func88, Tryd.ntmps88
  go_wp2_with fail
  generalize w.alloc (.cells #[.int .i64 x, .int .i64 y, .int .i64 (n : Int), .int .i64 (m : Int)] 58) = w0 at K0 B0 S0 ⊢
  have C0 := fun p : LowW (w.heap.size + 1) w0 => (K0.below p.below (Nat.lt_succ_self _)).four
  have c0 := fun p => (C0 p).1
  have c1 := fun p => (C0 p).2.1
  have c2 := fun p => (C0 p).2.2.1
  have c3 := fun p => (C0 p).2.2.2.1
  have KK := Lib.hid K0
  have BB := Lib.hid B0
  have SS := Lib.hid S0
  clear C0 K0 B0 S0
  refine wp_region_low (w.heap.size + 1) w0 (by kernel_rfl) (by kernel_rfl) (Below.refl _ _) ?_
  repeat (quiet_step (first | (go_at_call 60; exact LowW.of_call _ SS.out (R.out _))))
  refine wpQuiet_nil ?_
  rintro w' ⟨p, rfl⟩
  obtain ⟨k0, k1, k2, k3, k4⟩ := (KK.out.below p.below (Nat.lt_succ_self _)).four
  have PB := Lib.hid p.below
  have hsz : w.heap.size + 1 ≤ p.w.heap.size := by have := p.below.size; have := SS.out; omega
  have HN := Lib.hid hN
  clear c0 c1 c2 c3 h9 hdw hN
  generalize p.w = w1 at k0 k1 k2 k3 k4 PB hsz ⊢
  go_wp2_with (at_make; refine wpList_make_own _ rfl _ _ 22 rfl (w.heap.size + 1) 40 i0 (.agg #[.int .i64 0, .int .i64 0]) 2 Tryd.underlying22 hi hz0 hz1 .i64 .i64 _ N rfl rfl (by omega) (by rw [hz2]; omega) (by unfold maxLen; omega) hsz ?_; intro w2 hown2 hgrow2; have PB2 := Lib.hid (PB.out.grown hgrow2 hsz (fun k hk => by cases hk)); obtain ⟨l0, l1, l2, l3, l4⟩ := (KK.out.below PB2.out (Nat.lt_succ_self _)).four)
  clear k0 k1 k2 k3 k4
  generalize w1.heap.size = g at hown2 ⊢
  have hP2 := PB2.out
  clear hgrow2 PB PB2 h8 hsz
  go_loopw [3, 25] (fun lv jv wr => ∃ j q : Nat, q = j * n ∧ j ≤ m ∧ jv = .int .i64 (j : Int) ∧ lv = .slice (some ⟨g, 0, none⟩) q N ∧ wr.ownsRow (w.heap.size + 1) 40 2 (.slice (some ⟨g, 0, none⟩) q N) q (cells2 (ptF x y n) q) ∧ Below (w.heap.size + 1) w0 wr) (fun _ jv _ => m - (intOf jv).toNat)
  case atStart => exact ⟨0, 0, by simp, Nat.zero_le _, rfl, rfl, hown2, hP2⟩
  case round =>
    obtain ⟨j, q, hq, hj, rfl, rfl, hown, hbel⟩ := hrel
    obtain ⟨k0, k1, k2, k3, k4⟩ := (KK.out.below hbel (Nat.lt_succ_self _)).four
    by_cases hjm : j < m
    · have HQ := Lib.hid hq
      have HO := Lib.hid hown
      have HB := Lib.hid hbel
      clear hq hown hbel hown2 hP2 l0 l1 l2 l3 l4
      obtain ⟨wo, rfl⟩ : ∃ wo, wo = wr := ⟨_, rfl⟩
      go_wp2
      clear k0 k1 k2 k3 k4
      go_loopw [3, 30] (fun lv iv wr => ∃ i r : Nat, r = q + i ∧ i ≤ n ∧ iv = .int .i64 (i : Int) ∧ lv = .slice (some ⟨g, 0, none⟩) r N ∧ wr.ownsRow (w.heap.size + 1) 40 2 (.slice (some ⟨g, 0, none⟩) r N) r (cells2 (ptF x y n) r) ∧ Below (w.heap.size + 1) w0 wr) (fun _ iv _ => n - (intOf iv).toNat)
      case atStart => exact ⟨0, q, rfl, Nat.zero_le _, rfl, rfl, HO.out, HB.out⟩
      case round =>
        obtain ⟨i, r, hr, hin, rfl, rfl, hown, hbel⟩ := hrel
        by_cases hlt : i < n
        · obtain ⟨k0, k1, k2, k3, k4⟩ := (KK.out.below hbel (Nat.lt_succ_self _)).four
          have hrN : r + 1 ≤ N := by have h1 := mul_room HN.out hjm hlt; have h2 := HQ.out; omega
          have hpt : cells2 (ptF x y n) (r + 1) = cells2 (ptF x y n) r ++ [.int .i64 (x + (i : Int)), .int .i64 (y + (j : Int))] := by
            rw [cells2, hr, HQ.out, ptF_at x y n j i hlt]
          have hsz : w.heap.size + 1 ≤ wr.heap.size := by have := hbel.size; have := SS.out; omega
          have HPT := Lib.hid hpt
          have HR := Lib.hid hr
          have HBE := Lib.hid hbel
          clear hpt hr hbel
          go_wp2_with (at_builtin; refine wpList_fit2 rfl _ _ 22 rfl (w.heap.size + 1) 40 i0 Tryd.underlying22 hi hz1 g r N _ rfl hown (.int .i64 (x + (i : Int))) (.int .i64 (y + (j : Int))) rfl rfl rfl (by omega) (by omega) ?_; intro w3 hown3 hbel3)
          go_roundw
          case rel => exact ⟨i + 1, r + 1, by have := HR.out; omega, by omega, by go_num, rfl, by rw [HPT.out]; exact hown3, HBE.out.trans hbel3⟩
          case measure => simp [intOf]; omega
        · obtain rfl : i = n := by omega
          have HR := Lib.hid hr
          clear hr
          go_wp2
          go_roundw
          case rel => exact ⟨j + 1, r, by rw [HR.out, HQ.out, Nat.add_mul, Nat.one_mul], by omega, by go_num, rfl, hown, hbel⟩
          case measure => simp [intOf]; omega
    · obtain rfl : j = m := by omega
      have HQ := Lib.hid hq
      have hqN : q = N := by rw [hq, Nat.mul_comm]; exact HN.out
      clear hq
      subst hqN
      clear hown2 hP2 l0 l1 l2 l3 l4
      go_wp2
      go_ret
      exact ⟨g, rfl, PReads.of_own hown hN1, BB.out.trans (hbel.mono (Nat.le_succ _))⟩
end Go.Proofs.YthgnjjpkmikokaaDoor
namespace Go.Proofs.YthgnjjpkmikokaaDoor

/-- the first n positions of a list -/
def lst (f : Nat → P2) (n : Nat) : List P2 := (List.range n).map f
theorem lst_len (f : Nat → P2) (n : Nat) : (lst f n).length = n := by simp [lst]
theorem lst_get (f : Nat → P2) (n i : Nat) (h : i < (lst f n).length) : (lst f n)[i] = f i := by simp [lst]
theorem lst_mem {f : Nat → P2} {n : Nat} {a : P2} : a ∈ lst f n ↔ ∃ i, i < n ∧ f i = a := by simp [lst]
theorem lst_succ (f : Nat → P2) (n : Nat) : lst f (n + 1) = lst f n ++ [f n] := by simp [lst, List.range_succ]
theorem lst_pair {f : Nat → P2} {n : Nat} {R : P2 → P2 → Prop} : (lst f n).Pairwise R ↔ ∀ i j, i < j → j < n → R (f i) (f j) := by
  rw [List.pairwise_iff_getElem]
  constructor
  · intro h i j hij hj
    have := h i j (by rw [lst_len]; omega) (by rw [lst_len]; omega) hij
    rwa [lst_get, lst_get] at this
  · intro h i j hi hj hij
    rw [lst_get, lst_get]
    exact h i j hij (by rw [lst_len] at hj; exact hj)
theorem lst_same {f g : Nat → P2} {n : Nat} (h : lst f n = lst g n) (i : Nat) (hi : i < n) : f i = g i := by
  have h1 : (lst f n)[i]? = (lst g n)[i]? := by rw [h]
  rwa [List.getElem?_eq_getElem (by rw [lst_len]; exact hi), List.getElem?_eq_getElem (by rw [lst_len]; exact hi), lst_get, lst_get, Option.some.injEq] at h1
theorem lst_lf (l : List P2) : lst (lf l) l.length = l := by
  apply List.ext_getElem
  · simp [lst_len]
  · intro i h1 h2
    rw [lst_get]
    simp [lf, h2]
theorem lst_congr {f g : Nat → P2} {n : Nat} (h : ∀ i, i < n → f i = g i) : lst f n = lst g n := by
  apply List.ext_getElem
  · simp [lst_len]
  · intro i h1 h2
    rw [lst_get, lst_get]
    exact h i (by rw [lst_len] at h1; exact h1)

/-- strictly ascending -/
def Up (f : Nat → P2) (n : Nat) : Prop := ∀ i j, i < j → j < n → pc (f i) (f j) < 0
/-- two strictly ascending lists of the same positions are equal -/
theorem up_same {f g : Nat → P2} {n : Nat} (hf : Up f n) (hg : Up g n) (hp : (lst f n).Perm (lst g n)) : ∀ i, i < n → f i = g i :=
  lst_same (hp.eq_of_pairwise (le := fun a b => pc a b < 0) (fun a b _ _ h1 h2 => by rw [pc_lt] at h1 h2; omega) (lst_pair.2 hf) (lst_pair.2 hg))
/-- different positions are kept by any order -/
theorem apart_perm {f g : Nat → P2} {n : Nat} (hp : (lst f n).Perm (lst g n)) (h : ∀ i j, i < j → j < n → g i ≠ g j) : ∀ i j, i < j → j < n → f i ≠ f j :=
  (lst_pair (R := fun a b => a ≠ b)).1 (hp.symm.pairwise ((lst_pair (R := fun a b => a ≠ b)).2 h) (fun {_ _} h => Ne.symm h))

/-- the order of positions is a strict weak order -/
theorem pc_swo : Go.Sort.SWO (fun a b : P2 => decide (pc a b < 0)) where
  irrefl x := by rw [decide_eq_false_iff_not, pc_lt]; omega
  trans x y z h1 h2 := by rw [decide_eq_true_iff, pc_lt] at *; omega
  ntrans x y z h1 h2 := by rw [decide_eq_false_iff_not, pc_lt] at *; omega
end Go.Proofs.YthgnjjpkmikokaaDoor
namespace Go.Proofs.YthgnjjpkmikokaaDoor
open Go.RowKit

/-- whether two lists have the same positions in the same order -/
def sm (f : Nat → P2) (n : Nat) (g : Nat → P2) (m : Nat) : Bool := decide (n = m) && (List.range n).all fun i => decide (f i = g i)
theorem sm_iff (f : Nat → P2) (n : Nat) (g : Nat → P2) (m : Nat) : sm f n g m = true ↔ (n = m ∧ ∀ i, i < n → f i = g i) := by
  simp [sm, Bool.and_eq_true, List.all_eq_true]
theorem sm_self (f : Nat → P2) (n : Nat) : sm f n f n = true := (sm_iff f n f n).2 ⟨rfl, fun _ _ => rfl⟩
theorem sm_comm (f : Nat → P2) (n : Nat) (g : Nat → P2) (m : Nat) : sm f n g m = sm g m f n := by
  rw [Bool.eq_iff_iff, sm_iff, sm_iff]
  constructor <;> rintro ⟨rfl, h⟩ <;> exact ⟨rfl, fun i hi => (h i hi).symm⟩
set_option maxRecDepth 100000 in
set_option maxHeartbeats 1000000 in
theorem equal_any (A A' : Option Addr) (n m c c' : Nat) (f g : Nat → P2) (w : World) (h : QReads w w.heap.size A n f) (h' : QReads w w.heap.size A' m g) (hn : n ≤ 1000000) (hm : m ≤ 1000000) :
    Calls Tryd.prog 85 #[.slice A n c, .slice A' m c'] w fun e w' => e = .returned (.bool (sm f n g m)) ∧ Below w.heap.size w w' := by
  by_cases hnm : n = m
  · subst hnm
    have H := Lib.hid h
    have H' := Lib.hid h'
    clear h h'
    go_enter Tryd.func85, Tryd.ntmps85
    go_wp2
    go_loopw [13] (fun iv wr => ∃ j : Nat, j ≤ n ∧ iv = .int .i64 (j : Int) ∧ (∀ i, i < j → f i = g i) ∧ Below w.heap.size w wr) (fun iv _ => n - (intOf iv).toNat)
    case atStart => exact ⟨0, Nat.zero_le _, rfl, fun i hi => absurd hi (by omega), Below.refl _ _⟩
    case round =>
      obtain ⟨j, hj, rfl, hE, hbel⟩ := hrel
      have R := H.out.below hbel
      have R' := H'.out.below hbel
      have HB := Lib.hid hbel
      have HE := Lib.hid hE
      clear hbel hE
      by_cases hk : j < n
      · obtain ⟨g1, o1, rfl, hb1, hc1⟩ := R (by omega)
        obtain ⟨g2, o2, rfl, hb2, hc2⟩ := R' (by omega)
        obtain ⟨c10, c11⟩ := hc1 j (by omega)
        obtain ⟨c20, c21⟩ := hc2 j (by omega)
        clear hc1 hc2 R R'
        by_cases heq : f j = g j
        · have HQ := Lib.hid heq
          rw [← heq] at c20 c21
          clear heq
          generalize f j = x at c10 c11 c20 c21
          obtain ⟨x1, x2⟩ := x
          simp only at c10 c11 c20 c21
          go_wp2_with fail
          go_quiet (fail)
          go_wp2
          go_roundw
          case rel => exact ⟨j + 1, by omega, by go_num, fun i hi => by
            by_cases e : i < j
            · exact HE.out i e
            · obtain rfl : i = j := by omega
              exact HQ.out, below_drewN HB.out _⟩
          case measure => simp [intOf]; omega
        · have HF := Lib.hid (show sm f n g n = false by rw [← Bool.not_eq_true, sm_iff]; exact fun h => heq (h.2 j hk))
          obtain ⟨⟨x1, x2⟩, hx⟩ : ∃ x, x = f j := ⟨_, rfl⟩
          obtain ⟨⟨y1, y2⟩, hy⟩ : ∃ y, y = g j := ⟨_, rfl⟩
          rw [← hx] at c10 c11 heq
          rw [← hy] at c20 c21 heq
          clear hx hy
          simp only at c10 c11 c20 c21
          by_cases e1 : x1 = y1
          · subst e1
            have e2 : (x2 == y2) = false := by rw [beq_eq_false_iff_ne]; intro e; exact heq (by rw [e])
            clear heq
            go_wp2_with fail
            go_quiet (fail)
            go_wp2
            go_ret
            exact ⟨ret_bool HF.out.symm, below_drewN HB.out _⟩
          · have e1 : (x1 == y1) = false := by rw [beq_eq_false_iff_ne]; exact e1
            clear heq
            go_wp2_with fail
            go_quiet (fail)
            go_wp2
            go_ret
            exact ⟨ret_bool HF.out.symm, below_drewN HB.out _⟩
      · obtain rfl : j = n := by omega
        have HF := Lib.hid (show sm f j g j = true by rw [sm_iff]; exact ⟨rfl, HE.out⟩)
        clear hk R R'
        go_wp2
        go_ret
        exact ⟨ret_bool HF.out.symm, HB.out⟩
  · have HF := Lib.hid (show sm f n g m = false by rw [← Bool.not_eq_true, sm_iff]; exact fun h => hnm h.1)
    have e1 : ((n : Int) != (m : Int)) = true := by rw [bne_iff_ne]; omega
    clear h h'
    go_enter Tryd.func85, Tryd.ntmps85
    go_wp2
    go_ret
    exact ⟨ret_bool HF.out.symm, Below.refl _ _⟩
theorem hsame_any (A A' : Option Addr) (n m c c' : Nat) (f g : Nat → P2) (w : World) (h : QReads w w.heap.size A n f) (h' : QReads w w.heap.size A' m g) (hn : n ≤ 1000000) (hm : m ≤ 1000000) :
    Calls Tryd.prog 70 #[.slice A n c, .slice A' m c'] w fun e w' => e = .returned (.bool (sm f n g m)) ∧ Below w.heap.size w w' := by
  have C := Lib.hid (equal_any A A' n m c c' f g w h h' hn hm)
  clear h h'
  go_enter Tryd.func70, Tryd.ntmps70
  go_wp2_with (go_at_call 85; (with_reducible refine C.out.mono ?_); rintro e w' ⟨rfl, hb⟩; have HB := Lib.hid hb; clear hb)
  go_ret
  exact ⟨rfl, HB.out⟩
end Go.Proofs.YthgnjjpkmikokaaDoor
namespace Go.Proofs.YthgnjjpkmikokaaDoor
open Go.RowKit

/-- the absolute value -/
def ab (c : Int) : Int := max c (-c)
theorem size_any (c : Int) (w : World) (h1 : -1000000 ≤ c) (h2 : c ≤ 1000000) :
    Calls Tryd.prog 79 #[.int .i64 c] w fun e w' => e = .returned (.int .i64 (ab c)) ∧ w = w' := by
  rcases Int.lt_trichotomy c 0 with h | h | h
  · have e : ab c = -c := by unfold ab; omega
    rw [e]
    clear e
    go_enter Tryd.func79, Tryd.ntmps79
    go_wp2
    go_ret
    exact ⟨rfl, rfl⟩
  · subst h
    go_enter Tryd.func79, Tryd.ntmps79
    go_wp2
    go_ret
    exact ⟨rfl, rfl⟩
  · have e : ab c = c := by unfold ab; omega
    rw [e]
    clear e
    go_enter Tryd.func79, Tryd.ntmps79
    go_wp2
    go_ret
    exact ⟨rfl, rfl⟩
theorem square_any (r : Int) (n : Nat) (w : World) (h1 : 0 ≤ r) (h2 : r ≤ 2) (hn : 2 * r + 1 = (n : Int)) :
    Calls Tryd.prog 28 #[.int .i64 r] w fun e w' => e = .returned (.agg #[.int .i64 (-r), .int .i64 (-r), .int .i64 (n : Int), .int .i64 (n : Int)]) ∧ Below w.heap.size w w' := by
  go_enter Tryd.func28, Tryd.ntmps28
  go_wp2
  refine bodyPost_ret (v := .agg #[.int .i64 (-r), .int .i64 (-r), .int .i64 (n : Int), .int .i64 (n : Int)]) (by simp [results, Tryd.results28, go_sem, hn]) rfl ⟨rfl, ?_⟩
  exact (Below.refl _ _).alloc (Nat.le_refl _) _
theorem fnMoore_any (x y : Int) (w : World) : Calls Tryd.prog 78 #[.agg #[.int .i64 x, .int .i64 y]] w fun e w' => e = .returned (.bool true) ∧ Below w.heap.size w w' := by
  go_enter Tryd.func78, Tryd.ntmps78
  go_wp2
  go_ret
  exact ⟨rfl, (Below.refl _ _).alloc (Nat.le_refl _) _⟩
end Go.Proofs.YthgnjjpkmikokaaDoor
