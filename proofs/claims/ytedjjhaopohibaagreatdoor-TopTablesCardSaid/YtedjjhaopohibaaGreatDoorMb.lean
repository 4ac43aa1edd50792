/- Plain mathematics: lists of positions as multisets; strictly ascending ones are determined by their positions. -/
/- The walks of slices.Equal and hood.Same on any two lists. -/
/- The walks of hood's small functions: the absolute value, the square, and the three predicates. -/
/- The walk of collect with any pure predicate. -/
/- The walks of last, In, and Right on valid neighbourhoods. -/
/- Lists of numbers: what they read as; the searches in them and their comparison. -/
import Derived.Test.YtedjjhaopohibaaGreatDoorMa
import Derived.Sort.Statements
import Derived.BigQuiet
import Derived.IntWalk
namespace Go.Proofs.YtedjjhaopohibaaGreatDoor

/-- the first n positions of a list -/
def lst (f : Nat → P2) (n : Nat) : List P2 := (List.range n).map f
theorem lst_len (f : Nat → P2) (n : Nat) : (lst f n).length = n := by simp [lst]
theorem lst_get (f : Nat → P2) (n i : Nat) (h : i < (lst f n).length) : (lst f n)[i] = f i := by simp [lst]
theorem lst_mem {f : Nat → P2} {n : Nat} {a : P2} : a ∈ lst f n ↔ ∃ i, i < n ∧ f i = a := by simp [lst]
theorem lst_succ (f : Nat → P2) (n : Nat) : lst f (n + 1) = lst f n ++ [f n] := by simp [lst, List.range_succ]
theorem lst_pair {f : Nat → P2} {n : Nat} {R : P2 → P2 → Prop} : (lst f n).Pairwise R ↔ ∀ i j, i < j → j < n → R (f i) (f j) := by
  rw [List.pairwise_iff_getElem]
  constructor
  · intro h i j hij hj
    have := h i j (by rw [lst_len]; omega) (by rw [lst_len]; omega) hij
    rwa [lst_get, lst_get] at this
  · intro h i j hi hj hij
    rw [lst_get, lst_get]
    exact h i j hij (by rw [lst_len] at hj; exact hj)
theorem lst_same {f g : Nat → P2} {n : Nat} (h : lst f n = lst g n) (i : Nat) (hi : i < n) : f i = g i := by
  have h1 : (lst f n)[i]? = (lst g n)[i]? := by rw [h]
  rwa [List.getElem?_eq_getElem (by rw [lst_len]; exact hi), List.getElem?_eq_getElem (by rw [lst_len]; exact hi), lst_get, lst_get, Option.some.injEq] at h1
theorem lst_lf (l : List P2) : lst (lf l) l.length = l := by
  apply List.ext_getElem
  · simp [lst_len]
  · intro i h1 h2
    rw [lst_get]
    simp [lf, h2]
theorem lst_congr {f g : Nat → P2} {n : Nat} (h : ∀ i, i < n → f i = g i) : lst f n = lst g n := by
  apply List.ext_getElem
  · simp [lst_len]
  · intro i h1 h2
    rw [lst_get, lst_get]
    exact h i (by rw [lst_len] at h1; exact h1)

/-- strictly ascending -/
def Up (f : Nat → P2) (n : Nat) : Prop := ∀ i j, i < j → j < n → pc (f i) (f j) < 0
/-- two strictly ascending lists of the same positions are equal -/
theorem up_same {f g : Nat → P2} {n : Nat} (hf : Up f n) (hg : Up g n) (hp : (lst f n).Perm (lst g n)) : ∀ i, i < n → f i = g i :=
  lst_same (hp.eq_of_pairwise (le := fun a b => pc a b < 0) (fun a b _ _ h1 h2 => by rw [pc_lt] at h1 h2; omega) (lst_pair.2 hf) (lst_pair.2 hg))
/-- different positions are kept by any order -/
theorem apart_perm {f g : Nat → P2} {n : Nat} (hp : (lst f n).Perm (lst g n)) (h : ∀ i j, i < j → j < n → g i ≠ g j) : ∀ i j, i < j → j < n → f i ≠ f j :=
  (lst_pair (R := fun a b => a ≠ b)).1 (hp.symm.pairwise ((lst_pair (R := fun a b => a ≠ b)).2 h) (fun {_ _} h => Ne.symm h))

/-- the order of positions is a strict weak order -/
theorem pc_swo : Go.Sort.SWO (fun a b : P2 => decide (pc a b < 0)) where
  irrefl x := by rw [decide_eq_false_iff_not, pc_lt]; omega
  trans x y z h1 h2 := by rw [decide_eq_true_iff, pc_lt] at *; omega
  ntrans x y z h1 h2 := by rw [decide_eq_false_iff_not, pc_lt] at *; omega
end Go.Proofs.YtedjjhaopohibaaGreatDoor
namespace Go.Proofs.YtedjjhaopohibaaGreatDoor
open Go.RowKit

/-- whether two lists have the same positions in the same order -/
def sm (f : Nat → P2) (n : Nat) (g : Nat → P2) (m : Nat) : Bool := decide (n = m) && (List.range n).all fun i => decide (f i = g i)
theorem sm_iff (f : Nat → P2) (n : Nat) (g : Nat → P2) (m : Nat) : sm f n g m = true ↔ (n = m ∧ ∀ i, i < n → f i = g i) := by
  simp [sm, Bool.and_eq_true, List.all_eq_true]
theorem sm_self (f : Nat → P2) (n : Nat) : sm f n f n = true := (sm_iff f n f n).2 ⟨rfl, fun _ _ => rfl⟩
theorem sm_comm (f : Nat → P2) (n : Nat) (g : Nat → P2) (m : Nat) : sm f n g m = sm g m f n := by
  rw [Bool.eq_iff_iff, sm_iff, sm_iff]
  constructor <;> rintro ⟨rfl, h⟩ <;> exact ⟨rfl, fun i hi => (h i hi).symm⟩
set_option maxRecDepth 100000 in
set_option maxHeartbeats 1000000 in
theorem equal_any (A A' : Option Addr) (n m c c' : Nat) (f g : Nat → P2) (w : World) (h : QReads w w.heap.size A n f) (h' : QReads w w.heap.size A' m g) (hn : n ≤ 1000000) (hm : m ≤ 1000000) :
    Calls Tryz.prog 79 #[.slice A n c, .slice A' m c'] w fun e w' => e = .returned (.bool (sm f n g m)) ∧ Below w.heap.size w w' := by
  by_cases hnm : n = m
  · subst hnm
    have H := Lib.hid h
    have H' := Lib.hid h'
    clear h h'
    go_enter Tryz.func79, Tryz.ntmps79
    go_wp2
    go_loopw [13] (fun iv wr => ∃ j : Nat, j ≤ n ∧ iv = .int .i64 (j : Int) ∧ (∀ i, i < j → f i = g i) ∧ Below w.heap.size w wr) (fun iv _ => n - (intOf iv).toNat)
    case atStart => exact ⟨0, Nat.zero_le _, rfl, fun i hi => absurd hi (by omega), Below.refl _ _⟩
    case round =>
      obtain ⟨j, hj, rfl, hE, hbel⟩ := hrel
      have R := H.out.below hbel
      have R' := H'.out.below hbel
      have HB := Lib.hid hbel
      have HE := Lib.hid hE
      clear hbel hE
      by_cases hk : j < n
      · obtain ⟨g1, o1, rfl, hb1, hc1⟩ := R (by omega)
        obtain ⟨g2, o2, rfl, hb2, hc2⟩ := R' (by omega)
        obtain ⟨c10, c11⟩ := hc1 j (by omega)
        obtain ⟨c20, c21⟩ := hc2 j (by omega)
        clear hc1 hc2 R R'
        by_cases heq : f j = g j
        · have HQ := Lib.hid heq
          rw [← heq] at c20 c21
          clear heq
          generalize f j = x at c10 c11 c20 c21
          obtain ⟨x1, x2⟩ := x
          simp only at c10 c11 c20 c21
          go_wp2_with fail
          go_quiet (fail)
          go_wp2
          go_roundw
          case rel => exact ⟨j + 1, by omega, by go_num, fun i hi => by
            by_cases e : i < j
            · exact HE.out i e
            · obtain rfl : i = j := by omega
              exact HQ.out, below_drewN HB.out _⟩
          case measure => simp [intOf]; omega
        · have HF := Lib.hid (show sm f n g n = false by rw [← Bool.not_eq_true, sm_iff]; exact fun h => heq (h.2 j hk))
          obtain ⟨⟨x1, x2⟩, hx⟩ : ∃ x, x = f j := ⟨_, rfl⟩
          obtain ⟨⟨y1, y2⟩, hy⟩ : ∃ y, y = g j := ⟨_, rfl⟩
          rw [← hx] at c10 c11 heq
          rw [← hy] at c20 c21 heq
          clear hx hy
          simp only at c10 c11 c20 c21
          by_cases e1 : x1 = y1
          · subst e1
            have e2 : (x2 == y2) = false := by rw [beq_eq_false_iff_ne]; intro e; exact heq (by rw [e])
            clear heq
            go_wp2_with fail
            go_quiet (fail)
            go_wp2
            go_ret
            exact ⟨ret_bool HF.out.symm, below_drewN HB.out _⟩
          · have e1 : (x1 == y1) = false := by rw [beq_eq_false_iff_ne]; exact e1
            clear heq
            go_wp2_with fail
            go_quiet (fail)
            go_wp2
            go_ret
            exact ⟨ret_bool HF.out.symm, below_drewN HB.out _⟩
      · obtain rfl : j = n := by omega
        have HF := Lib.hid (show sm f j g j = true by rw [sm_iff]; exact ⟨rfl, HE.out⟩)
        clear hk R R'
        go_wp2
        go_ret
        exact ⟨ret_bool HF.out.symm, HB.out⟩
  · have HF := Lib.hid (show sm f n g m = false by rw [← Bool.not_eq_true, sm_iff]; exact fun h => hnm h.1)
    have e1 : ((n : Int) != (m : Int)) = true := by rw [bne_iff_ne]; omega
    clear h h'
    go_enter Tryz.func79, Tryz.ntmps79
    go_wp2
    go_ret
    exact ⟨ret_bool HF.out.symm, Below.refl _ _⟩
theorem hsame_any (A A' : Option Addr) (n m c c' : Nat) (f g : Nat → P2) (w : World) (h : QReads w w.heap.size A n f) (h' : QReads w w.heap.size A' m g) (hn : n ≤ 1000000) (hm : m ≤ 1000000) :
    Calls Tryz.prog 66 #[.slice A n c, .slice A' m c'] w fun e w' => e = .returned (.bool (sm f n g m)) ∧ Below w.heap.size w w' := by
  have C := Lib.hid (equal_any A A' n m c c' f g w h h' hn hm)
  clear h h'
  go_enter Tryz.func66, Tryz.ntmps66
  go_wp2_with (go_at_call 79; (with_reducible refine C.out.mono ?_); rintro e w' ⟨rfl, hb⟩; have HB := Lib.hid hb; clear hb)
  go_ret
  exact ⟨rfl, HB.out⟩
end Go.Proofs.YtedjjhaopohibaaGreatDoor
namespace Go.Proofs.YtedjjhaopohibaaGreatDoor
open Go.RowKit

/-- the absolute value -/
def ab (c : Int) : Int := max c (-c)
theorem square_any (r : Int) (n : Nat) (w : World) (h1 : 0 ≤ r) (h2 : r ≤ 2) (hn : 2 * r + 1 = (n : Int)) :
    Calls Tryz.prog 47 #[.int .i64 r] w fun e w' => e = .returned (.agg #[.int .i64 (-r), .int .i64 (-r), .int .i64 (n : Int), .int .i64 (n : Int)]) ∧ Below w.heap.size w w' := by
  go_enter Tryz.func47, Tryz.ntmps47
  go_wp2
  refine bodyPost_ret (v := .agg #[.int .i64 (-r), .int .i64 (-r), .int .i64 (n : Int), .int .i64 (n : Int)]) (by simp [results, Tryz.results47, go_sem, hn]) rfl ⟨rfl, ?_⟩
  exact (Below.refl _ _).alloc (Nat.le_refl _) _
end Go.Proofs.YtedjjhaopohibaaGreatDoor
namespace Go.Proofs.YtedjjhaopohibaaGreatDoor
open Go.RowKit

/-- append of one position onto a row of the call's own -/
theorem wpList_append2 {P : Program} {w : World} {ops : Array Oper} {rest : List Oper} {o : Oper} {a : Act} {Q : Exit → Act → World → Prop} (hgd : o.guard = none) (s x : Operand) (t : TypeId)
    (ho : o.op = .call { callee := .builtin .append, args := #[s, x], argTypes := #[t, t] })
    (base : Nat) (e : TypeId) (i : TypeInfo) (z : Value) (bytes : Nat) (ht : P.underlying t = some (.slice e)) (hi : P.info? e = some i) (hz : i.zero = some z)
    (hsize : i.size = 2) (hby : i.bytes = bytes) (hzs : z.cells.size = 2)
    (A : Option Addr) (n c : Nat) (xs : List Value) (hs : a.eval s = .slice A n c) (hown : w.ownsRow base e 2 (.slice A n c) n xs) (u v : Value)
    (hx : a.eval x = .slice (some ⟨w.heap.size, 0, none⟩) 1 1) (h1 : u.oneCell' = true) (h2 : v.oneCell' = true) (h63 : n + 1 ≤ maxLen) (hbytes : (n + 1) * bytes ≤ 140737488355328) (hbase : base ≤ w.heap.size)
    (h : ∀ g' c' w', w'.ownsRow base e 2 (.slice (some ⟨g', 0, none⟩) (n + 1) c') (n + 1) (xs ++ [u, v]) → Below base w w' → wpList P ops Q rest (a.put o.dst (.slice (some ⟨g', 0, none⟩) (n + 1) c')) w') :
    wpList P ops Q (o :: rest) a (w.alloc (.cells #[u, v] e)) := by
  refine wpList_append_own _ hgd s x t ho base e i z 2 bytes ht hi hz hsize hby hzs (by decide) _ n xs hs (hown.alloc _) ⟨w.heap.size, 0, none⟩ 1 1 [u, v] hx rfl ?_ ?_ h63 hbytes (by simp; omega) ?_
  · intro j y hj
    match j, hj with
    | 0, hj => simp at hj; subst hj; simp [Addr.add]
    | 1, hj => simp at hj; subst hj; simp [Addr.add]
  · intro y hy; simp at hy; rcases hy with rfl | rfl <;> assumption
  · intro v' w' hown' hg _
    obtain ⟨g', c', hv, hg', hs'⟩ := hown'.form (by omega)
    subst hv
    refine h g' c' w' hown' (Below.grown ((Below.refl base w).alloc hbase _) hg (by simp; omega) ?_)
    intro k hk
    exact (hown.lt k hk).1
/-- what the call owns stays owned behind a contract that turns nothing below the heap's size -/
theorem own_below2 {w w' : World} {base : Nat} {e : TypeId} {v : Value} {n : Nat} {xs : List Value} (h : w.ownsRow base e 2 v n xs) (hb : Below w.heap.size w w') : w'.ownsRow base e 2 v n xs := by
  refine ⟨h.1, ?_⟩
  rcases h.2 with hn | ⟨g, cap, cur, rfl, hb', hg, rest⟩
  · exact .inl hn
  · refine .inr ⟨g, cap, cur, rfl, hb', ?_, rest⟩
    rw [hb.block g (Array.getElem?_eq_some_iff.1 hg).1]; exact hg

theorem own_base {w : World} {base base' : Nat} {k : Nat} {e : TypeId} {v : Value} {n : Nat} {xs : List Value} (h : w.ownsRow base e k v n xs) (hb : base' ≤ base) : w.ownsRow base' e k v n xs := by
  refine ⟨h.1, ?_⟩
  rcases h.2 with hn | ⟨g, cap, cur, h1, h2, rest⟩
  · exact .inl hn
  · exact .inr ⟨g, cap, cur, h1, Nat.le_trans hb h2, rest⟩
/-- the cells of a list -/
def cl (l : List P2) : List Value := l.flatMap fun x => [.int .i64 x.1, .int .i64 x.2]
theorem cells2_lst (f : Nat → P2) (n : Nat) : cells2 f n = cl (lst f n) := by
  induction n with
  | zero => rfl
  | succ n ih => rw [cells2, lst_succ, cl, List.flatMap_append, ih]; simp [cl]
theorem cl_lf (l : List P2) : cl l = cells2 (lf l) l.length := by rw [cells2_lst, lst_lf]
theorem cl_add (l : List P2) (a : P2) : cl (l ++ [a]) = cl l ++ [.int .i64 a.1, .int .i64 a.2] := by simp [cl, List.flatMap_append]
theorem QReads.of_list {w : World} {base c : Nat} {e : TypeId} {A : Option Addr} {l : List P2} (h : w.ownsRow base e 2 (.slice A l.length c) l.length (cl l)) : QReads w w.heap.size A l.length (lf l) := by
  rw [cl_lf] at h
  exact QReads.of_own h

/-- the positions of the square -/
def sq (r : Int) (n : Nat) : Nat → P2 := ptF (-r) (-r) n
theorem ptF_bd (r : Int) (n k : Nat) (h1 : 0 ≤ r) (h2 : r ≤ 2) (hn : 2 * r + 1 = (n : Int)) (hk : k < n * n) : -4 ≤ (sq r n k).1 ∧ (sq r n k).1 ≤ 4 ∧ -4 ≤ (sq r n k).2 ∧ (sq r n k).2 ≤ 4 := by
  have hn0 : 0 < n := by omega
  have a1 := Nat.mod_lt k hn0
  have a2 : k / n < n := Nat.div_lt_of_lt_mul hk
  unfold sq ptF
  simp only
  generalize k % n = u at a1 ⊢
  generalize k / n = v at a2 ⊢
  omega

end Go.Proofs.YtedjjhaopohibaaGreatDoor
namespace Go.Proofs.YtedjjhaopohibaaGreatDoor
open Go.RowKit

/-- a valid neighbourhood -/
def Hd (f : Nat → P2) (n : Nat) : Prop := (1 ≤ n ∧ n ≤ 25) ∧ (∀ i, i < n → -2 ≤ (f i).1 ∧ (f i).1 ≤ 2 ∧ -2 ≤ (f i).2 ∧ (f i).2 ≤ 2) ∧ ∀ i, i < n - 1 → pc (f i) (f (i + 1)) < 0
instance (f : Nat → P2) (n : Nat) : Decidable (Hd f n) := by unfold Hd; exact inferInstance

theorem last_any (x y ww hh : Int) (w : World) (hx : -1048576 ≤ x) (hx' : x ≤ 1048576) (hy : -1048576 ≤ y) (hy' : y ≤ 1048576) (h1 : 1 ≤ ww) (h2 : ww ≤ 2097153) (h3 : 1 ≤ hh) (h4 : hh ≤ 2097153) :
    Calls Tryz.prog 63 #[.agg #[.int .i64 x, .int .i64 y, .int .i64 ww, .int .i64 hh]] w fun e w' => e = .returned (.agg #[.int .i64 (x + ww - 1), .int .i64 (y + hh - 1)]) ∧ Below w.heap.size w w' := by
  go_enter Tryz.func63, Tryz.ntmps63
  go_wp2
  refine bodyPost_ret (v := .agg #[.int .i64 (x + ww - 1), .int .i64 (y + hh - 1)]) (by simp [results, Tryz.results63, go_sem]) rfl ⟨rfl, ?_⟩
  exact ((Below.refl _ _).alloc (Nat.le_refl _) _).alloc (by simp) _
set_option maxHeartbeats 1000000 in
theorem in_any (x y : Int) (w : World) (hx : -2 ≤ x) (hx' : x ≤ 2) (hy : -2 ≤ y) (hy' : y ≤ 2) :
    Calls Tryz.prog 46 #[.agg #[.int .i64 (-2), .int .i64 (-2), .int .i64 5, .int .i64 5], .agg #[.int .i64 x, .int .i64 y]] w fun e w' => e = .returned (.bool true) ∧ Below w.heap.size w w' := by
  have R := Lib.hid (fun w => right_yes (-2) (-2) 5 5 w (by unfold Ok OkS; omega))
  have L := Lib.hid (fun w => by have := last_any (-2) (-2) 5 5 w (by omega) (by omega) (by omega) (by omega) (by omega) (by omega) (by omega) (by omega); rwa [show (-2 : Int) + 5 - 1 = 2 by decide] at this)
  have K1 := (Blk.new w 92 #[.int .i64 (-2), .int .i64 (-2), .int .i64 5, .int .i64 5]).alloc (.cells #[.int .i64 x, .int .i64 y] 74)
  have K2 := Blk.new (w.alloc (.cells #[.int .i64 (-2), .int .i64 (-2), .int .i64 5, .int .i64 5] 92)) 74 #[.int .i64 x, .int .i64 y]
  rw [show (w.alloc (.cells #[.int .i64 (-2), .int .i64 (-2), .int .i64 5, .int .i64 5] 92)).heap.size = w.heap.size + 1 by simp] at K2
  have B2 : Below w.heap.size w ((w.alloc (.cells #[.int .i64 (-2), .int .i64 (-2), .int .i64 5, .int .i64 5] 92)).alloc (.cells #[.int .i64 x, .int .i64 y] 74)) := ((Below.refl _ _).alloc (Nat.le_refl _) _).alloc (by simp) _
  go_enter Tryz.func46, Tryz.ntmps46
  go_wp2_with fail
  generalize (w.alloc (.cells #[.int .i64 (-2), .int .i64 (-2), .int .i64 5, .int .i64 5] 92)).alloc (.cells #[.int .i64 x, .int .i64 y] 74) = w0 at K1 K2 B2 ⊢
  obtain ⟨a0, a1, a2, a3, a4⟩ := K1.four
  have K1 := Lib.hid K1
  have K2 := Lib.hid K2
  have B2 := Lib.hid B2
  go_wp2_with (first
    | (go_at_call 62; (with_reducible refine (R.out _).mono ?_); rintro e w1 ⟨rfl, hb⟩; have B3 := Lib.hid (B2.out.trans (hb.mono B2.out.size)); have C3 := Lib.hid hb; obtain ⟨b0, b1, b2, b3, b4⟩ := (K1.out.below hb K1.out.lt).four; clear hb)
    | (go_at_call 63; (with_reducible refine (L.out _).mono ?_); rintro e w2 ⟨rfl, hb⟩; have B4 := Lib.hid (B3.out.trans (hb.mono B3.out.size)); have C4 := C3.out.trans (hb.mono C3.out.size); obtain ⟨d0, d1, d2, d3, d4⟩ := ((K1.out.below C4 K1.out.lt).alloc (.cells #[.int .i64 2, .int .i64 2] 74)).four; obtain ⟨e0, e1, e2, e3, e4⟩ := ((K2.out.below C4 K2.out.lt).alloc (.cells #[.int .i64 2, .int .i64 2] 74)).two; have B5 := Lib.hid (B4.out.alloc B4.out.size (.cells #[.int .i64 2, .int .i64 2] 74)); clear hb C4))
  go_ret
  exact ⟨rfl, B5.out⟩
theorem hright_nil (w : World) : Calls Tryz.prog 25 #[.slice none 0 0] w fun e w' => e = .returned (.bool false) ∧ Below w.heap.size w w' := by
  go_enter Tryz.func25, Tryz.ntmps25
  go_wp2
  go_ret
  exact ⟨rfl, Below.refl _ _⟩
set_option maxRecDepth 100000 in
set_option maxHeartbeats 2000000 in
theorem hright_any (A : Option Addr) (n c : Nat) (f : Nat → P2) (w : World) (h : QReads w w.heap.size A n f) (hd : Hd f n) :
    Calls Tryz.prog 25 #[.slice A n c] w fun e w' => e = .returned (.bool true) ∧ Below w.heap.size w w' := by
  obtain ⟨⟨hn1, hn2⟩, hin, hup⟩ := hd
  have hl1 : ¬ ((n : Int) < 1) := by omega
  have hl2 : ¬ (25 < (n : Int)) := by omega
  have H := Lib.hid h
  have HI := Lib.hid hin
  have HU := Lib.hid hup
  have SQ := Lib.hid (fun w => square_any 2 5 w (by omega) (by omega) (by omega))
  clear h hin hup
  go_enter Tryz.func25, Tryz.ntmps25
  go_wp2
  go_loopw [15] (fun iv wr => ∃ j : Nat, j ≤ n ∧ iv = .int .i64 (j : Int) ∧ Below w.heap.size w wr) (fun iv _ => n - (intOf iv).toNat)
  case atStart => exact ⟨0, Nat.zero_le _, rfl, Below.refl _ _⟩
  case round =>
    obtain ⟨j, hj, rfl, hbel⟩ := hrel
    have R := H.out.below hbel
    have HB := Lib.hid hbel
    by_cases hjn : j < n
    · obtain ⟨g1, o1, rfl, hb1, hc1⟩ := R (by omega)
      have c1 := hc1 j hjn
      have hgw : g1 < wr.heap.size := Nat.lt_of_lt_of_le hb1 hbel.size
      have hx4 := HI.out j hjn
      clear hbel
      obtain ⟨⟨x1, x2⟩, hx⟩ : ∃ x, x = f j := ⟨_, rfl⟩
      rw [← hx] at c1 hx4
      obtain ⟨c10, c11⟩ := c1
      simp only at c10 c11 hx4
      have IN := Lib.hid (fun w => in_any x1 x2 w hx4.1 hx4.2.1 hx4.2.2.1 hx4.2.2.2)
      have K7 := Lib.hid (Blk.new wr 74 #[.int .i64 x1, .int .i64 x2])
      have B7 := Lib.hid (HB.out.alloc HB.out.size (.cells #[.int .i64 x1, .int .i64 x2] 74))
      have BW := Lib.hid ((Below.refl wr.heap.size wr).alloc (Nat.le_refl _) (.cells #[.int .i64 x1, .int .i64 x2] 74))
      have HX := Lib.hid hx
      have S7 : wr.heap.size < (wr.alloc (.cells #[.int .i64 x1, .int .i64 x2] 74)).heap.size := by simp
      by_cases hj0 : j = 0
      · subst hj0
        simp only [Nat.zero_mul, Nat.add_zero, Nat.zero_add] at c10 c11
        clear hc1 R hx hx4
        go_wp2_with fail
        generalize wr.alloc (.cells #[.int .i64 x1, .int .i64 x2] 74) = w1 at K7 B7 BW S7 ⊢
        have q0 := fun p : LowW w1.heap.size w1 => (K7.out.below p.below K7.out.lt).two.1
        have q1 := fun p : LowW w1.heap.size w1 => (K7.out.below p.below K7.out.lt).two.2.1
        refine wp_region_low w1.heap.size w1 (by kernel_rfl) (by kernel_rfl) (Below.refl _ _) ?_
        repeat (quiet_step (first | (go_at_call 47; with_reducible exact LowW.of_call _ (Nat.le_refl _) (SQ.out _)) | (go_at_call 46; with_reducible exact LowW.of_call _ (Nat.le_refl _) (IN.out _))))
        refine wpQuiet_nil ?_
        rintro w2 ⟨p, rfl⟩
        have B2 := Lib.hid (B7.out.trans (p.below.mono B7.out.size))
        clear q0 q1
        generalize p.w = w2 at B2 ⊢
        go_wp2_with fail
        go_region
        all_goals go_wp2
        all_goals go_roundw
        case rel => exact ⟨0 + 1, by omega, by go_num, B2.out.drew⟩
        case measure => simp [intOf]; omega
      · obtain ⟨i, hi⟩ : ∃ i, j = i + 1 := ⟨j - 1, by omega⟩
        have hin : i < n := by omega
        have e1 : (j : Int) - 1 = (i : Int) := by omega
        have hd1 : decide (0 < (j : Int)) = true := by rw [decide_eq_true_iff]; omega
        have hd2 : decide (0 < j) = true := by rw [decide_eq_true_iff]; omega
        have hw1 : IntKind.i64.wrap ((j : Int) - 1) = (i : Int) := by rw [e1]; exact IntWalk.i64_in _ (by omega)
        have c2 := hc1 i hin
        have hr := HU.out i (by omega)
        rw [← hi, ← hx] at hr
        obtain ⟨⟨y1, y2⟩, hy⟩ : ∃ y, y = f i := ⟨_, rfl⟩
        rw [← hy] at c2 hr
        have hr : or2 (sg y2 x2) (sg y1 x1) < 0 := hr
        have P := fun w => pcompare_any y1 y2 x1 x2 w
        generalize or2 (sg y2 x2) (sg y1 x1) = r at P hr
        have zz := Lib.hid P
        (try clear P)
        have P := zz
        clear zz
        have C2 := Lib.hid c2
        have hnr : ¬ (0 ≤ r) := by omega
        clear hc1 R hx hx4 hy hi hj0 c2 e1
        go_wp2_with fail
        generalize wr.alloc (.cells #[.int .i64 x1, .int .i64 x2] 74) = w1 at K7 B7 BW S7 ⊢
        have q0 := fun p : LowW w1.heap.size w1 => (K7.out.below p.below K7.out.lt).two.1
        have q1 := fun p : LowW w1.heap.size w1 => (K7.out.below p.below K7.out.lt).two.2.1
        refine wp_region_low w1.heap.size w1 (by kernel_rfl) (by kernel_rfl) (Below.refl _ _) ?_
        repeat (quiet_step (first | (go_at_call 47; with_reducible exact LowW.of_call _ (Nat.le_refl _) (SQ.out _)) | (go_at_call 46; with_reducible exact LowW.of_call _ (Nat.le_refl _) (IN.out _))))
        refine wpQuiet_nil ?_
        rintro w2 ⟨p, rfl⟩
        have B2 := Lib.hid (B7.out.trans (p.below.mono B7.out.size))
        have BX := Lib.hid (BW.out.trans (p.below.mono BW.out.size))
        have K8 := Lib.hid (K7.out.below p.below K7.out.lt)
        clear q0 q1
        generalize p.w = w2 at B2 BX K8 ⊢
        go_wp2_with fail
        have d0 := fun p : LowW w2.heap.size w2 => LowW.cell (a := ⟨g1, o1 + i * 2, none⟩) (Nat.lt_of_lt_of_le hgw BX.out.size) ((BX.out.cell hgw).trans C2.out.1) p
        have d1 := fun p : LowW w2.heap.size w2 => LowW.cell (a := ⟨g1, o1 + i * 2 + 1, none⟩) (Nat.lt_of_lt_of_le hgw BX.out.size) ((BX.out.cell hgw).trans C2.out.2) p
        have q0 := fun p : LowW w2.heap.size w2 => (K8.out.below p.below K8.out.lt).two.1
        have q1 := fun p : LowW w2.heap.size w2 => (K8.out.below p.below K8.out.lt).two.2.1
        clear c10 c11
        refine wp_region_low w2.heap.size w2 (by kernel_rfl) (by kernel_rfl) (Below.refl _ _) ?_
        repeat (quiet_step (first | (go_at_call 48; with_reducible exact LowW.of_call _ (Nat.le_refl _) (P.out _))))
        refine wpQuiet_nil ?_
        rintro w3 ⟨p, rfl⟩
        have B3 := Lib.hid (B2.out.trans (p.below.mono B2.out.size))
        clear d0 d1 q0 q1 hw1
        generalize p.w = w3 at B3 ⊢
        go_wp2
        go_roundw
        case rel => exact ⟨j + 1, by omega, by go_num, B3.out⟩
        case measure => simp [intOf]; omega
    · obtain rfl : j = n := by omega
      clear R hbel
      go_wp2
      go_ret
      exact ⟨rfl, HB.out⟩
end Go.Proofs.YtedjjhaopohibaaGreatDoor
namespace Go.Proofs.YtedjjhaopohibaaGreatDoor
open Go.RowKit

/-- a list of numbers as cells -/
def il (l : List Int) : List Value := l.map fun x => .int .i64 x
theorem il_len (l : List Int) : (il l).length = l.length := by simp [il]
theorem il_add (l : List Int) (x : Int) : il (l ++ [x]) = il l ++ [.int .i64 x] := by simp [il]
/-- number k of a list -/
def ig (l : List Int) (k : Nat) : Int := l.getD k 0
theorem Reads.later {w w' : World} {A : Option Addr} {n : Nat} {xs : List Value} (h : Reads w w.heap.size A n xs) (hb : Below w.heap.size w w') : Reads w' w'.heap.size A n xs := (h.below hb).more hb.size
theorem il_at {w : World} {B n : Nat} {A : Option Addr} {l : List Int} (h : Reads w B A n (il l)) {k : Nat} (hk : k < n) :
    ∃ ad, A = some ad ∧ ad.block < B ∧ w.cell? (ad.add k) = some (.int .i64 (ig l k)) := by
  obtain ⟨ad, u, e, hb, hx, hc⟩ := h.at_ hk
  refine ⟨ad, e, hb, ?_⟩
  rw [hc, ← hx]
  simp only [il, List.getElem?_map, ig, List.getD] at hx ⊢
  cases h' : l[k]? with
  | none => rw [h'] at hx; cases hx
  | some d => simp
theorem reads_len {w : World} {B n : Nat} {A : Option Addr} {l : List Int} (h : Reads w B A n (il l)) : l.length = n := by simpa [il] using h.1
theorem ig_mem {l : List Int} {j : Nat} (h : j < l.length) : ig l j ∈ l := by
  rw [ig, List.getD_eq_getElem?_getD, List.getElem?_eq_getElem h]; exact List.getElem_mem h
theorem mem_ig {l : List Int} {k : Int} (h : k ∈ l) : ∃ j, j < l.length ∧ ig l j = k := by
  obtain ⟨j, hj, rfl⟩ := List.getElem_of_mem h
  exact ⟨j, hj, by rw [ig, List.getD_eq_getElem?_getD, List.getElem?_eq_getElem hj]; rfl⟩

/-- a strictly ascending list of numbers from 0 to m - 1 -/
def asc (l : List Int) (m : Int) : Bool := (List.range l.length).all fun i => decide (0 ≤ ig l i) && decide (ig l i < m) && (decide (i = 0) || decide (ig l (i - 1) < ig l i))
theorem asc_iff (l : List Int) (m : Int) : asc l m = true ↔ ∀ i, i < l.length → 0 ≤ ig l i ∧ ig l i < m ∧ (0 < i → ig l (i - 1) < ig l i) := by
  simp only [asc, List.all_eq_true, List.mem_range, Bool.and_eq_true, Bool.or_eq_true, decide_eq_true_eq]
  constructor
  · intro h i hi
    obtain ⟨⟨h1, h2⟩, h3⟩ := h i hi
    exact ⟨h1, h2, fun h4 => by rcases h3 with h3 | h3 <;> omega⟩
  · intro h i hi
    obtain ⟨h1, h2, h3⟩ := h i hi
    exact ⟨⟨h1, h2⟩, (Nat.eq_zero_or_pos i).imp id h3⟩
theorem asc_no {l : List Int} {m : Int} {i : Nat} (hi : i < l.length) (h : ¬ (0 ≤ ig l i ∧ ig l i < m ∧ (0 < i → ig l (i - 1) < ig l i))) : asc l m = false := by
  rw [← Bool.not_eq_true, asc_iff]
  exact fun h' => h (h' i hi)

section
variable (A : Option Addr) (n c B : Nat) (l : List Int) (k : Int) (w : World)
theorem index_no (h : Reads w B A n (il l)) (hn : n ≤ 1000000) (hk : k ∉ l) :
    Calls Tryz.prog 57 #[.slice A n c, .int .i64 k] w fun e w' => e = .returned (.int .i64 (-1)) ∧ w = w' := by
  have HL := Lib.hid (reads_len h)
  have H := Lib.hid h
  clear h
  go_enter Tryz.func57, Tryz.ntmps57
  go_wp2
  go_loop [8] (fun iv => ∃ j : Nat, j ≤ n ∧ iv = .int .i64 (j : Int)) (fun iv => n - (intOf iv).toNat)
  case atStart => exact ⟨0, Nat.zero_le _, rfl⟩
  case round =>
    obtain ⟨j, hj, rfl⟩ := hrel
    by_cases hlt : j < n
    · obtain ⟨ad, rfl, hb, hc⟩ := il_at H.out hlt
      have hx : ig l j ≠ k := fun e => hk (by rw [← e]; exact ig_mem (by rw [HL.out]; exact hlt))
      generalize ig l j = x at hc hx
      have ht : (x == k) = false := by rw [beq_eq_false_iff_ne]; exact hx
      have ht2 : (k == x) = false := by rw [beq_eq_false_iff_ne]; exact hx.symm
      clear hx
      go_wp2
      go_round
      case rel => exact ⟨j + 1, by omega, by go_num⟩
      case measure => simp [intOf]; omega
    · obtain rfl : j = n := by omega
      go_wp2
      go_ret
      exact ⟨rfl, rfl⟩
theorem index_yes (h : Reads w B A n (il l)) (hn : n ≤ 1000000) (hk : k ∈ l) :
    Calls Tryz.prog 57 #[.slice A n c, .int .i64 k] w fun e w' => ∃ r : Nat, e = .returned (.int .i64 (r : Nat)) ∧ w = w' := by
  have HL := Lib.hid (reads_len h)
  have H := Lib.hid h
  clear h
  go_enter Tryz.func57, Tryz.ntmps57
  go_wp2
  go_loop [8] (fun iv => ∃ j : Nat, j ≤ n ∧ iv = .int .i64 (j : Int) ∧ ∀ i, i < j → ig l i ≠ k) (fun iv => n - (intOf iv).toNat)
  case atStart => exact ⟨0, Nat.zero_le _, rfl, fun i hi => absurd hi (by omega)⟩
  case round =>
    obtain ⟨j, hj, rfl, hno⟩ := hrel
    have HN := Lib.hid hno
    clear hno
    by_cases hlt : j < n
    · obtain ⟨ad, rfl, hb, hc⟩ := il_at H.out hlt
      obtain ⟨x, hx⟩ : ∃ x, x = ig l j := ⟨_, rfl⟩
      rw [← hx] at hc
      have HXX := Lib.hid hx
      clear hx
      by_cases hxk : x = k
      · subst hxk
        go_wp2
        go_ret
        exact ⟨⟨j, rfl⟩, rfl⟩
      · have ht : (x == k) = false := by rw [beq_eq_false_iff_ne]; exact hxk
        have ht2 : (k == x) = false := by rw [beq_eq_false_iff_ne]; exact fun e => hxk e.symm
        have HK := Lib.hid hxk
        clear hxk
        go_wp2
        go_round
        case rel =>
          exact ⟨j + 1, by omega, by go_num, fun i hi => by
            by_cases e : i = j
            · subst e; rw [← HXX.out]; exact HK.out
            · exact HN.out i (by omega)⟩
        case measure => simp [intOf]; omega
    · exfalso
      obtain ⟨i, hi, he⟩ := mem_ig hk
      exact HN.out i (by have := HL.out; omega) he
theorem contains_any (h : Reads w B A n (il l)) (hn : n ≤ 1000000) :
    Calls Tryz.prog 50 #[.slice A n c, .int .i64 k] w fun e w' => e = .returned (.bool (decide (k ∈ l))) ∧ w = w' := by
  by_cases hk : k ∈ l
  · have IX := Lib.hid (index_yes A n c B l k w h hn hk)
    rw [decide_eq_true hk]
    clear h hk
    go_enter Tryz.func50, Tryz.ntmps50
    go_wp2_with (go_at_call 57; (with_reducible refine IX.out.mono ?_); rintro e w' ⟨r, rfl, rfl⟩)
    go_ret
    exact ⟨rfl, rfl⟩
  · have IX := Lib.hid (index_no A n c B l k w h hn hk)
    rw [decide_eq_false hk]
    clear h hk
    go_enter Tryz.func50, Tryz.ntmps50
    go_wp2_with (go_at_call 57; (with_reducible refine IX.out.mono ?_); rintro e w' ⟨rfl, rfl⟩)
    go_ret
    exact ⟨rfl, rfl⟩
end
end Go.Proofs.YtedjjhaopohibaaGreatDoor
