/- The walk of Points: the positions of a valid box of at most 5000 positions, row by row. -/
/- The walk of collect with any pure predicate. -/
/- A list of nodes that grows in a struct. -/
import Derived.Test.YtjekpmkghpjamaaGreatDoorMab
import Derived.Test.YtjekpmkghpjamaaGreatDoorMaa
import Derived.Below
import Derived.BigQuiet
import Derived.Deep.AppendLies
import Derived.Deep.CutRange
import Derived.Deep.Draws
import Derived.Deep.QuietTactic
import Derived.IntWalk
import Derived.Laws.OwnMore
import Derived.Laws.Rows
import Derived.Lib.Hide
import Derived.OwnWalk
import Derived.StillTail
import Derived.Test.YtjekpmkghpjamaaGreatDoorRows
import Derived.WalkKit
import Derived.Test.YtjekpmkghpjamaaGreatDoorMaf
import Derived.LoopN
import Derived.Sort.Statements
import Derived.StillTailTactics
import Derived.Test.YtjekpmkghpjamaaGreatDoorMad
import Derived.Test.YtjekpmkghpjamaaGreatDoorMac
namespace Go.Proofs.YtjekpmkghpjamaaGreatDoor
open Go.RowKit
theorem Tryz.info_point : (Tryz.prog.info? 140).map (fun i => (i.zero, i.size, i.bytes)) = some (some (.agg #[.int .i64 0, .int .i64 0]), 2, 16) := by kernel_rfl

/-- append of one value of two cells within the capacity of a row of the call's own -/
theorem wpList_fit2 {P : Program} {w : World} {ops : Array Oper} {rest : List Oper} {o : Oper} {a : Act} {Q : Exit → Act → World → Prop} (hgd : o.guard = none) (s x : Operand) (t : TypeId)
    (ho : o.op = .call { callee := .builtin .append, args := #[s, x], argTypes := #[t, t] })
    (base : Nat) (e : TypeId) (i : TypeInfo) (ht : P.underlying t = some (.slice e)) (hi : P.info? e = some i) (hsize : i.size = 2)
    (g k cap : Nat) (xs : List Value) (hs : a.eval s = .slice (some ⟨g, 0, none⟩) k cap) (hown : w.ownsRow base e 2 (.slice (some ⟨g, 0, none⟩) k cap) k xs) (u v : Value)
    (hx : a.eval x = .slice (some ⟨w.heap.size, 0, none⟩) 1 1) (h1 : u.oneCell' = true) (h2 : v.oneCell' = true) (hk : k + 1 ≤ cap) (hbase : base ≤ w.heap.size)
    (h : ∀ w', w'.ownsRow base e 2 (.slice (some ⟨g, 0, none⟩) (k + 1) cap) (k + 1) (xs ++ [u, v]) → Below base w w' → wpList P ops Q rest (a.put o.dst (.slice (some ⟨g, 0, none⟩) (k + 1) cap)) w') :
    wpList P ops Q (o :: rest) a (w.alloc (.cells #[u, v] e)) := by
  refine wpList_append_fits _ hgd s x t ho base e i 2 ht hi hsize g k cap xs hs (hown.alloc _) ⟨w.heap.size, 0, none⟩ 1 1 [u, v] hx rfl ?_ ?_ hk ?_
  · intro j z hj
    match j, hj with
    | 0, hj => simp at hj; subst hj; simp [Addr.add]
    | 1, hj => simp at hj; subst hj; simp [Addr.add]
  · intro z hz; simp at hz; rcases hz with rfl | rfl <;> assumption
  · intro w' hown' hg
    exact h w' hown' (Below.grown ((Below.refl base w).alloc hbase _) hg (by simp; omega) (fun k hk => by obtain rfl := Option.some.inj hk; exact (hown.lt g rfl).1))

theorem mul_room {n m N j i : Nat} (hN : n * m = N) (hj : j < m) (hi : i < n) : j * n + i + 1 ≤ N := by
  have h := Nat.mul_le_mul_left n (show j + 1 ≤ m from hj)
  rw [Nat.mul_add, Nat.mul_one, Nat.mul_comm n j] at h
  omega

set_option maxRecDepth 100000 in
set_option maxHeartbeats 2000000 in
theorem points_any (x y : Int) (n m N : Nat) (w : World) (h : Ok x y n m) (hN : n * m = N) (h5 : N ≤ 5000) :
    Calls Tryz.prog 172 #[.agg #[.int .i64 x, .int .i64 y, .int .i64 (n : Int), .int .i64 (m : Int)]] w fun e w' => ∃ g, e = .returned (.slice (some ⟨g, 0, none⟩) N N) ∧ PReads w' w'.heap.size g N (ptF x y n) ∧ Below w.heap.size w w' := by
  obtain ⟨i0, hi, hz0, hz1, hz2⟩ := info_parts Tryz.info_point
  have R := Lib.hid (fun w => right_yes x y n m w h)
  obtain ⟨⟨a1, a2, a3, a4⟩, b1, b2, b3, b4⟩ := h
  have hn1 : 1 ≤ n := by omega
  have hm1 : 1 ≤ m := by omega
  have hN1 : 1 ≤ N := by rw [← hN]; exact Nat.mul_le_mul hn1 hm1
  have h7 : (n : Int) * (m : Int) ≤ 5000 := by
    have : ((n * m : Nat) : Int) ≤ 5000 := by rw [hN]; omega
    simpa using this
  have h8 : (n : Int) ≤ 5000 / (m : Int) := Int.le_ediv_of_mul_le (by omega) h7
  have h9 : (5000 : Int) / (m : Int) ≤ 5000 := Int.ediv_le_self _ (by decide)
  have hdw : IntKind.i64.wrap (Int.tdiv 5000 (m : Int)) = 5000 / (m : Int) := by rw [Int.tdiv_eq_ediv_of_nonneg (by decide)]; exact IntWalk.i64_in _ (by omega)
  obtain ⟨d, hd⟩ : ∃ d, d = 5000 / (m : Int) := ⟨_, rfl⟩
  rw [← hd] at h8 h9 hdw
  clear hd h7
  have hm0 : ¬ m = 0 := by omega
  have hmN : (n : Int) * (m : Int) = (N : Int) := by rw [← hN]; simp
  have K0 := Blk.new w 202 #[.int .i64 x, .int .i64 y, .int .i64 (n : Int), .int .i64 (m : Int)]
  have B0 : Below w.heap.size w (w.alloc (.cells #[.int .i64 x, .int .i64 y, .int .i64 (n : Int), .int .i64 (m : Int)] 202)) := (Below.refl w.heap.size w).alloc (Nat.le_refl _) _
  have S0 : w.heap.size + 1 ≤ (w.alloc (.cells #[.int .i64 x, .int .i64 y, .int .i64 (n : Int), .int .i64 (m : Int)] 202)).heap.size := by simp
  go_enter Tryz.func172, Tryz.ntmps172
  go_wp2_with fail
  generalize w.alloc (.cells #[.int .i64 x, .int .i64 y, .int .i64 (n : Int), .int .i64 (m : Int)] 202) = w0 at K0 B0 S0 ⊢
  have C0 := fun p : LowW (w.heap.size + 1) w0 => (K0.below p.below (Nat.lt_succ_self _)).four
  have c0 := fun p => (C0 p).1
  have c1 := fun p => (C0 p).2.1
  have c2 := fun p => (C0 p).2.2.1
  have c3 := fun p => (C0 p).2.2.2.1
  have KK := Lib.hid K0
  have BB := Lib.hid B0
  have SS := Lib.hid S0
  clear C0 K0 B0 S0
  refine wp_region_low (w.heap.size + 1) w0 (by kernel_rfl) (by kernel_rfl) (Below.refl _ _) ?_
  repeat (quiet_step (first | (go_at_call 197; exact LowW.of_call _ SS.out (R.out _))))
  refine wpQuiet_nil ?_
  rintro w' ⟨p, rfl⟩
  obtain ⟨k0, k1, k2, k3, k4⟩ := (KK.out.below p.below (Nat.lt_succ_self _)).four
  have PB := Lib.hid p.below
  have hsz : w.heap.size + 1 ≤ p.w.heap.size := by have := p.below.size; have := SS.out; omega
  have HN := Lib.hid hN
  clear c0 c1 c2 c3 h9 hdw hN
  generalize p.w = w1 at k0 k1 k2 k3 k4 PB hsz ⊢
  go_wp2_with (at_make; refine wpList_make_own _ rfl _ _ 22 rfl (w.heap.size + 1) 140 i0 (.agg #[.int .i64 0, .int .i64 0]) 2 Tryz.underlying22 hi hz0 hz1 .i64 .i64 _ N rfl rfl (by omega) (by rw [hz2]; omega) (by unfold maxLen; omega) hsz ?_; intro w2 hown2 hgrow2; have PB2 := Lib.hid (PB.out.grown hgrow2 hsz (fun k hk => by cases hk)); obtain ⟨l0, l1, l2, l3, l4⟩ := (KK.out.below PB2.out (Nat.lt_succ_self _)).four)
  clear k0 k1 k2 k3 k4
  generalize w1.heap.size = g at hown2 ⊢
  have hP2 := PB2.out
  clear hgrow2 PB PB2 h8 hsz
  go_loopw [3, 25] (fun lv jv wr => ∃ j q : Nat, q = j * n ∧ j ≤ m ∧ jv = .int .i64 (j : Int) ∧ lv = .slice (some ⟨g, 0, none⟩) q N ∧ wr.ownsRow (w.heap.size + 1) 140 2 (.slice (some ⟨g, 0, none⟩) q N) q (cells2 (ptF x y n) q) ∧ Below (w.heap.size + 1) w0 wr) (fun _ jv _ => m - (intOf jv).toNat)
  case atStart => exact ⟨0, 0, by simp, Nat.zero_le _, rfl, rfl, hown2, hP2⟩
  case round =>
    obtain ⟨j, q, hq, hj, rfl, rfl, hown, hbel⟩ := hrel
    obtain ⟨k0, k1, k2, k3, k4⟩ := (KK.out.below hbel (Nat.lt_succ_self _)).four
    by_cases hjm : j < m
    · have HQ := Lib.hid hq
      have HO := Lib.hid hown
      have HB := Lib.hid hbel
      clear hq hown hbel hown2 hP2 l0 l1 l2 l3 l4
      obtain ⟨wo, rfl⟩ : ∃ wo, wo = wr := ⟨_, rfl⟩
      go_wp2
      clear k0 k1 k2 k3 k4
      go_loopw [3, 30] (fun lv iv wr => ∃ i r : Nat, r = q + i ∧ i ≤ n ∧ iv = .int .i64 (i : Int) ∧ lv = .slice (some ⟨g, 0, none⟩) r N ∧ wr.ownsRow (w.heap.size + 1) 140 2 (.slice (some ⟨g, 0, none⟩) r N) r (cells2 (ptF x y n) r) ∧ Below (w.heap.size + 1) w0 wr) (fun _ iv _ => n - (intOf iv).toNat)
      case atStart => exact ⟨0, q, rfl, Nat.zero_le _, rfl, rfl, HO.out, HB.out⟩
      case round =>
        obtain ⟨i, r, hr, hin, rfl, rfl, hown, hbel⟩ := hrel
        by_cases hlt : i < n
        · obtain ⟨k0, k1, k2, k3, k4⟩ := (KK.out.below hbel (Nat.lt_succ_self _)).four
          have hrN : r + 1 ≤ N := by have h1 := mul_room HN.out hjm hlt; have h2 := HQ.out; omega
          have hpt : cells2 (ptF x y n) (r + 1) = cells2 (ptF x y n) r ++ [.int .i64 (x + (i : Int)), .int .i64 (y + (j : Int))] := by
            rw [cells2, hr, HQ.out, ptF_at x y n j i hlt]
          have hsz : w.heap.size + 1 ≤ wr.heap.size := by have := hbel.size; have := SS.out; omega
          have HPT := Lib.hid hpt
          have HR := Lib.hid hr
          have HBE := Lib.hid hbel
          clear hpt hr hbel
          go_wp2_with (at_builtin; refine wpList_fit2 rfl _ _ 22 rfl (w.heap.size + 1) 140 i0 Tryz.underlying22 hi hz1 g r N _ rfl hown (.int .i64 (x + (i : Int))) (.int .i64 (y + (j : Int))) rfl rfl rfl (by omega) (by omega) ?_; intro w3 hown3 hbel3)
          go_roundw
          case rel => exact ⟨i + 1, r + 1, by have := HR.out; omega, by omega, by go_num, rfl, by rw [HPT.out]; exact hown3, HBE.out.trans hbel3⟩
          case measure => simp [intOf]; omega
        · obtain rfl : i = n := by omega
          have HR := Lib.hid hr
          clear hr
          go_wp2
          go_roundw
          case rel => exact ⟨j + 1, r, by rw [HR.out, HQ.out, Nat.add_mul, Nat.one_mul], by omega, by go_num, rfl, hown, hbel⟩
          case measure => simp [intOf]; omega
    · obtain rfl : j = m := by omega
      have HQ := Lib.hid hq
      have hqN : q = N := by rw [hq, Nat.mul_comm]; exact HN.out
      clear hq
      subst hqN
      clear hown2 hP2 l0 l1 l2 l3 l4
      go_wp2
      go_ret
      exact ⟨g, rfl, PReads.of_own hown hN1, BB.out.trans (hbel.mono (Nat.le_succ _))⟩
end Go.Proofs.YtjekpmkghpjamaaGreatDoor
namespace Go.Proofs.YtjekpmkghpjamaaGreatDoor
open Go.RowKit
/-- append of one position onto a row of the call's own -/
theorem wpList_append2 {P : Program} {w : World} {ops : Array Oper} {rest : List Oper} {o : Oper} {a : Act} {Q : Exit → Act → World → Prop} (hgd : o.guard = none) (s x : Operand) (t : TypeId)
    (ho : o.op = .call { callee := .builtin .append, args := #[s, x], argTypes := #[t, t] })
    (base : Nat) (e : TypeId) (i : TypeInfo) (z : Value) (bytes : Nat) (ht : P.underlying t = some (.slice e)) (hi : P.info? e = some i) (hz : i.zero = some z)
    (hsize : i.size = 2) (hby : i.bytes = bytes) (hzs : z.cells.size = 2)
    (A : Option Addr) (n c : Nat) (xs : List Value) (hs : a.eval s = .slice A n c) (hown : w.ownsRow base e 2 (.slice A n c) n xs) (u v : Value)
    (hx : a.eval x = .slice (some ⟨w.heap.size, 0, none⟩) 1 1) (h1 : u.oneCell' = true) (h2 : v.oneCell' = true) (h63 : n + 1 ≤ maxLen) (hbytes : (n + 1) * bytes ≤ 140737488355328) (hbase : base ≤ w.heap.size)
    (h : ∀ g' c' w', w'.ownsRow base e 2 (.slice (some ⟨g', 0, none⟩) (n + 1) c') (n + 1) (xs ++ [u, v]) → Below base w w' → wpList P ops Q rest (a.put o.dst (.slice (some ⟨g', 0, none⟩) (n + 1) c')) w') :
    wpList P ops Q (o :: rest) a (w.alloc (.cells #[u, v] e)) := by
  refine wpList_append_own _ hgd s x t ho base e i z 2 bytes ht hi hz hsize hby hzs (by decide) _ n xs hs (hown.alloc _) ⟨w.heap.size, 0, none⟩ 1 1 [u, v] hx rfl ?_ ?_ h63 hbytes (by simp; omega) ?_
  · intro j y hj
    match j, hj with
    | 0, hj => simp at hj; subst hj; simp [Addr.add]
    | 1, hj => simp at hj; subst hj; simp [Addr.add]
  · intro y hy; simp at hy; rcases hy with rfl | rfl <;> assumption
  · intro v' w' hown' hg _
    obtain ⟨g', c', hv, hg', hs'⟩ := hown'.form (by omega)
    subst hv
    refine h g' c' w' hown' (Below.grown ((Below.refl base w).alloc hbase _) hg (by simp; omega) ?_)
    intro k hk
    exact (hown.lt k hk).1
/-- what the call owns stays owned behind a contract that turns nothing below the heap's size -/
theorem own_below2 {w w' : World} {base : Nat} {e : TypeId} {v : Value} {n : Nat} {xs : List Value} (h : w.ownsRow base e 2 v n xs) (hb : Below w.heap.size w w') : w'.ownsRow base e 2 v n xs := by
  refine ⟨h.1, ?_⟩
  rcases h.2 with hn | ⟨g, cap, cur, rfl, hb', hg, rest⟩
  · exact .inl hn
  · refine .inr ⟨g, cap, cur, rfl, hb', ?_, rest⟩
    rw [hb.block g (Array.getElem?_eq_some_iff.1 hg).1]; exact hg

theorem own_base {w : World} {base base' : Nat} {k : Nat} {e : TypeId} {v : Value} {n : Nat} {xs : List Value} (h : w.ownsRow base e k v n xs) (hb : base' ≤ base) : w.ownsRow base' e k v n xs := by
  refine ⟨h.1, ?_⟩
  rcases h.2 with hn | ⟨g, cap, cur, h1, h2, rest⟩
  · exact .inl hn
  · exact .inr ⟨g, cap, cur, h1, Nat.le_trans hb h2, rest⟩
/-- the cells of a list -/
def cl (l : List P2) : List Value := l.flatMap fun x => [.int .i64 x.1, .int .i64 x.2]
theorem cells2_lst (f : Nat → P2) (n : Nat) : cells2 f n = cl (lst f n) := by
  induction n with
  | zero => rfl
  | succ n ih => rw [cells2, lst_succ, cl, List.flatMap_append, ih]; simp [cl]
theorem cl_lf (l : List P2) : cl l = cells2 (lf l) l.length := by rw [cells2_lst, lst_lf]
theorem cl_add (l : List P2) (a : P2) : cl (l ++ [a]) = cl l ++ [.int .i64 a.1, .int .i64 a.2] := by simp [cl, List.flatMap_append]
theorem QReads.of_list {w : World} {base c : Nat} {e : TypeId} {A : Option Addr} {l : List P2} (h : w.ownsRow base e 2 (.slice A l.length c) l.length (cl l)) : QReads w w.heap.size A l.length (lf l) := by
  rw [cl_lf] at h
  exact QReads.of_own h

/-- the positions of the square -/
def sq (r : Int) (n : Nat) : Nat → P2 := ptF (-r) (-r) n
theorem ptF_bd (r : Int) (n k : Nat) (h1 : 0 ≤ r) (h2 : r ≤ 2) (hn : 2 * r + 1 = (n : Int)) (hk : k < n * n) : -4 ≤ (sq r n k).1 ∧ (sq r n k).1 ≤ 4 ∧ -4 ≤ (sq r n k).2 ∧ (sq r n k).2 ≤ 4 := by
  have hn0 : 0 < n := by omega
  have a1 := Nat.mod_lt k hn0
  have a2 : k / n < n := Nat.div_lt_of_lt_mul hk
  unfold sq ptF
  simp only
  generalize k % n = u at a1 ⊢
  generalize k / n = v at a2 ⊢
  omega

set_option maxRecDepth 100000 in
set_option maxHeartbeats 2000000 in
theorem collect_any (r : Int) (n N : Nat) (G : Nat) (cb : Array Value) (pd : P2 → Bool) (w : World) (h1 : 0 ≤ r) (h2 : r ≤ 2) (hn : 2 * r + 1 = (n : Int)) (hN : n * n = N)
    (eg : ∀ args w, (callFunc G args).run Tryz.prog w = .ok (.enter G args) w)
    (HC : ∀ x y w1, -4 ≤ x → x ≤ 4 → -4 ≤ y → y ≤ 4 → Below w.heap.size w w1 → Calls Tryz.prog G (#[.agg #[.int .i64 x, .int .i64 y]] ++ cb) w1 fun e w' => e = .returned (.bool (pd (x, y))) ∧ Below w1.heap.size w1 w') :
    Calls Tryz.prog 122 #[.int .i64 r, .func (.func G) #[] cb] w fun e w' => ∃ A c l, e = .returned (.slice A l.length c) ∧ l = (lst (sq r n) N).filter pd ∧ w'.ownsRow w.heap.size 140 2 (.slice A l.length c) l.length (cl l) ∧ Below w.heap.size w w' := by
  obtain ⟨i0, hi, hz0, hz1, hz2⟩ := info_parts Tryz.info_point
  have hN5 : N ≤ 25 := by
    have : n ≤ 5 := by omega
    rw [← hN]; exact Nat.mul_le_mul this this
  have SQ := Lib.hid (fun w => square_any r n w h1 h2 hn)
  have PT := Lib.hid (fun w => points_any (-r) (-r) n n N w (by unfold Ok OkS; omega) hN (by omega))
  have HB := Lib.hid (fun k (hk : k < N) => ptF_bd r n k h1 h2 hn (by rw [hN]; exact hk))
  have zz := Lib.hid HC
  (try clear HC)
  have HC := zz
  clear zz
  clear hn hN
  go_enter Tryz.func122, Tryz.ntmps122
  go_wp2_with (first
    | (go_at_call 157; (with_reducible refine (SQ.out _).mono ?_); rintro e w1 ⟨rfl, hb⟩; have B1 := Lib.hid hb; clear hb)
    | (go_at_call 172; (with_reducible refine (PT.out _).mono ?_); rintro e w2 ⟨g, rfl, hr, hb⟩; have R2 := Lib.hid (show PReads w2 w2.heap.size g N (sq r n) from hr); have B2 := Lib.hid (B1.out.trans (hb.mono B1.out.size)); clear hb hr))
  clear SQ PT
  go_loopw [5, 18] (fun lv jv wr => ∃ (j : Nat) (l : List P2) (A : Option Addr) (c : Nat), j ≤ N ∧ jv = .int .i64 (j : Int) ∧ l.length ≤ j ∧ lv = .slice A l.length c ∧ l = (lst (sq r n) j).filter pd ∧ wr.ownsRow w2.heap.size 140 2 (.slice A l.length c) l.length (cl l) ∧ Below w2.heap.size w2 wr) (fun _ jv _ => N - (intOf jv).toNat)
  case atStart => exact ⟨0, [], none, 0, Nat.zero_le _, rfl, Nat.le_refl _, rfl, rfl, World.ownsRow_nil _ _ _ _, Below.refl _ _⟩
  case round =>
    obtain ⟨j, l, A, c, hj, rfl, hl, rfl, hll, hown, hbel⟩ := hrel
    have HL := Lib.hid hll
    have HW := Lib.hid hown
    have HR := Lib.hid ((R2.out.below hbel).more hbel.size)
    have HE := Lib.hid hbel
    clear hll hown hbel
    by_cases hjn : j < N
    · obtain ⟨⟨x, y⟩, hx⟩ : ∃ x, x = sq r n j := ⟨_, rfl⟩
      obtain ⟨b1, b2, b3, b4⟩ := HB.out j hjn
      obtain ⟨c0, c1⟩ := HR.out.2 j hjn
      have hgw := HR.out.1
      rw [← hx] at c0 c1 b1 b2 b3 b4
      simp only at c0 c1 b1 b2 b3 b4
      have HX := Lib.hid hx
      clear hx
      have BW := Lib.hid ((Below.refl wr.heap.size wr).alloc (Nat.le_refl _) (.cells #[.int .i64 x, .int .i64 y] 140))
      have K7 := Lib.hid (Blk.new wr 140 #[.int .i64 x, .int .i64 y])
      have B7 := Lib.hid (HE.out.alloc HE.out.size (.cells #[.int .i64 x, .int .i64 y] 140))
      have C1 := fun w1 (h : Below w2.heap.size w2 w1) => HC.out x y w1 b1 b2 b3 b4 (B2.out.trans (h.mono B2.out.size))
      have step := fun (l' : List P2) (e : l' = if pd (x, y) = true then l ++ [(x, y)] else l) => (show l' = (lst (sq r n) (j + 1)).filter pd by
        rw [e, lst_succ, List.filter_append, ← HL.out, ← HX.out]
        by_cases hp : pd (x, y) = true <;> simp [hp])
      have STEP := Lib.hid step
      clear step
      generalize pd (x, y) = q at C1 STEP
      have zz := Lib.hid C1
      (try clear C1)
      have C1 := zz
      clear zz
      clear b1 b2 b3 b4
      cases q with
      | true =>
        go_wp2_with (first
          | (at_builtin; refine wpList_append2 rfl _ _ 22 rfl w2.heap.size 140 i0 (.agg #[.int .i64 0, .int .i64 0]) 16 Tryz.underlying22 hi hz0 hz1 hz2 rfl A l.length c _ rfl W4 (.int .i64 x) (.int .i64 y) rfl rfl rfl (by unfold maxLen; omega) (by omega) hs4 ?_; intro g5 c5 w5 hown5 hbel5)
          | ((with_reducible refine (C1.out _ B7.out).mono ?_); rintro e w4 ⟨rfl, hb⟩; obtain ⟨k0, k1, k2, k3, k4⟩ := (K7.out.below hb K7.out.lt).two; have BX := Lib.hid (BW.out.trans (hb.mono BW.out.size)); have B4 := Lib.hid (HE.out.trans (BX.out.mono HE.out.size)); have W4 := own_below2 HW.out BX.out; have hs4 := B4.out.size; clear hb))
        go_roundw
        case rel =>
          refine ⟨j + 1, l ++ [(x, y)], some ⟨g5, 0, none⟩, c5, by omega, by go_num, by (simp; omega), by simp, STEP.out _ rfl, by (rw [cl_add]; simpa using hown5), B4.out.trans hbel5⟩
        case measure => simp [intOf]; omega
      | false =>
        go_wp2_with (first
          | ((with_reducible refine (C1.out _ B7.out).mono ?_); rintro e w4 ⟨rfl, hb⟩; have BX := Lib.hid (BW.out.trans (hb.mono BW.out.size)); have B4 := Lib.hid (HE.out.trans (BX.out.mono HE.out.size)); have W4 := own_below2 HW.out BX.out; clear hb))
        go_roundw
        case rel =>
          exact ⟨j + 1, l, A, c, by omega, by go_num, by omega, rfl, STEP.out _ rfl, W4, B4.out⟩
        case measure => simp [intOf]; omega
    · obtain rfl : j = N := by omega
      go_wp2
      go_ret
      exact ⟨A, c, l, rfl, HL.out, own_base HW.out B2.out.size, B2.out.trans (HE.out.mono B2.out.size)⟩
end Go.Proofs.YtjekpmkghpjamaaGreatDoor
namespace Go.Proofs.YtjekpmkghpjamaaGreatDoor
open Go.RowKit
theorem Blk.three6 {w : World} {g : Nat} {t : TypeId} {a b c : Value} (h : Blk w g t #[a, b, c]) : w.cell? ⟨g, 0, none⟩ = some a ∧ w.cell? ⟨g, 1, none⟩ = some b ∧ w.cell? ⟨g, 2, none⟩ = some c ∧ w.frozen? ⟨g, 0, none⟩ = false ∧ w.frozen? ⟨g, 1, none⟩ = false ∧ w.frozen? ⟨g, 2, none⟩ = false ∧ g < w.heap.size :=
  ⟨by rw [h.cell]; rfl, by rw [h.cell]; rfl, by rw [h.cell]; rfl, h.frozen 0, h.frozen 1, h.frozen 2, h.lt⟩
/-- the cells of a make of states -/
def zs (S : Nat) : Array Value := (il (List.replicate S 0)).toArray
theorem mk_zs {S : Nat} (h1 : 2 ≤ S) (h2 : S ≤ 8) (w : World) : (Instr.makeSlice 36 (.int .i64 (S : Int)) (.int .i64 (S : Int))).run Tryz.prog w = .ok (.slice (some ⟨w.heap.size, 0, none⟩) S S) (w.alloc (.cells (zs S) 3)) := by
  obtain rfl | rfl | rfl | rfl | rfl | rfl | rfl : S = 2 ∨ S = 3 ∨ S = 4 ∨ S = 5 ∨ S = 6 ∨ S = 7 ∨ S = 8 := by omega
  all_goals kernel_rfl
/-- a growing list of nodes, in a struct -/
def UR (w : World) (base gu : Nat) (s h : Value) (j : Nat) (lv : Nat → Int) (nx : Nat → List Int) : Prop :=
  ∃ gn c xs, Blk w gu 25 #[s, h, .slice (some ⟨gn, 0, none⟩) j c] ∧ gn ≠ gu ∧ w.ownsRow base 101 2 (.slice (some ⟨gn, 0, none⟩) j c) j xs ∧ Inn w (fun b => b = gn ∨ b = gu) xs j lv nx
theorem UR.below {w w' : World} {base gu j : Nat} {s h : Value} {lv : Nat → Int} {nx : Nat → List Int} (hu : UR w base gu s h j lv nx) (hb : Below w.heap.size w w') : UR w' base gu s h j lv nx := by
  obtain ⟨gn, c, xs, h1, h2, h3, h4⟩ := hu
  exact ⟨gn, c, xs, h1.below hb h1.lt, h2, own_below2 h3 hb, h4.below hb⟩

theorem UR.grow {w w7 : World} {base gu gn c j g' c' c2 : Nat} {s h : Value} {lv : Nat → Int} {nx : Nat → List Int} {xs : List Value} {o : Obj} {A : Option Addr}
    (hK : Blk w gu 25 #[s, h, .slice (some ⟨gn, 0, none⟩) j c]) (hne : gn ≠ gu) (hown : w.ownsRow base 101 2 (.slice (some ⟨gn, 0, none⟩) j c) j xs) (hin : Inn w (fun b => b = gn ∨ b = gu) xs j lv nx)
    (hr : Reads w w.heap.size A (nx j).length (il (nx j))) (hA : 0 < (nx j).length → ∀ ad, A = some ad → ¬ (ad.block = gn ∨ ad.block = gu))
    (hown' : w7.ownsRow base 101 2 (.slice (some ⟨g', 0, none⟩) (j + 1) c') (j + 1) (xs ++ [.int .i64 (lv j), .slice A (nx j).length c2]))
    (hg : (w.alloc o).grownBy w7 (Value.slice (some ⟨gn, 0, none⟩) j c).ownBlock) (hat : (Value.slice (some ⟨gn, 0, none⟩) j c).ownBlock = some g' ∨ g' = w.heap.size + 1) :
    UR (w7.setCell ⟨gu, 2, none⟩ (.slice (some ⟨g', 0, none⟩) (j + 1) c')) base gu s h (j + 1) lv nx := by
  have hgn : (Value.slice (some ⟨gn, 0, none⟩) j c).ownBlock = some gn := by simp [Value.ownBlock]
  rw [hgn] at hg hat
  have hlt := hK.lt
  have hsz := hg.size
  simp only [World.size_alloc] at hsz
  have hg2 : g' ≠ gu := by
    rcases hat with e | e
    · injection e with e; omega
    · omega
  have K7 : Blk w7 gu 25 #[s, h, .slice (some ⟨gn, 0, none⟩) j c] := (hg.block gu (by simp; omega) (fun e => by injection e with e; omega)).trans (hK.alloc _)
  refine ⟨g', c', _, K7.set_ 2 _, hg2, own_set hown' (by simp [Value.ownBlock]; exact hg2) _, ?_⟩
  refine (hin.push (by have := hown.1; omega) hr hA).far (by simp [World.setCell]; omega) ?_ ?_
  · intro b hb hG
    rw [Below.heap_setCell _ _ _ _ (fun e => hG (.inr e))]
    rw [hg.block b (by simp; omega) (fun e => by injection e with e; exact hG (.inl e))]
    exact Below.heap_alloc _ _ _ hb
  · intro b hb hG
    rcases hG with e | e
    · subst e
      rcases hat with e | e
      · injection e with e; exact .inl e.symm
      · omega
    · exact .inr e
end Go.Proofs.YtjekpmkghpjamaaGreatDoor
