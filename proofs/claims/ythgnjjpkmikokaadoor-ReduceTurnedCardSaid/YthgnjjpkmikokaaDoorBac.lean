/- The walk of collect with any pure predicate. -/
/- The walks of last, In, and Right on valid neighbourhoods. -/
/- The walks of Moore, Neumann and Hex at the examples. -/
/- Lists of numbers: what they read as; their comparison. -/
import Derived.Test.YthgnjjpkmikokaaDoorBab
import Derived.Shelf.Abstract
import Derived.Test.YthgnjjpkmikokaaDoorBaa
import Derived.BigQuiet
import Derived.IntWalk
namespace Go.Proofs.YthgnjjpkmikokaaDoor
open Go.RowKit

/-- append of one position onto a row of the call's own -/
theorem wpList_append2 {P : Program} {w : World} {ops : Array Oper} {rest : List Oper} {o : Oper} {a : Act} {Q : Exit → Act → World → Prop} (hgd : o.guard = none) (s x : Operand) (t : TypeId)
    (ho : o.op = .call { callee := .builtin .append, args := #[s, x], argTypes := #[t, t] })
    (base : Nat) (e : TypeId) (i : TypeInfo) (z : Value) (bytes : Nat) (ht : P.underlying t = some (.slice e)) (hi : P.info? e = some i) (hz : i.zero = some z)
    (hsize : i.size = 2) (hby : i.bytes = bytes) (hzs : z.cells.size = 2)
    (A : Option Addr) (n c : Nat) (xs : List Value) (hs : a.eval s = .slice A n c) (hown : w.ownsRow base e 2 (.slice A n c) n xs) (u v : Value)
    (hx : a.eval x = .slice (some ⟨w.heap.size, 0, none⟩) 1 1) (h1 : u.oneCell' = true) (h2 : v.oneCell' = true) (h63 : n + 1 ≤ maxLen) (hbytes : (n + 1) * bytes ≤ 140737488355328) (hbase : base ≤ w.heap.size)
    (h : ∀ g' c' w', w'.ownsRow base e 2 (.slice (some ⟨g', 0, none⟩) (n + 1) c') (n + 1) (xs ++ [u, v]) → Below base w w' → wpList P ops Q rest (a.put o.dst (.slice (some ⟨g', 0, none⟩) (n + 1) c')) w') :
    wpList P ops Q (o :: rest) a (w.alloc (.cells #[u, v] e)) := by
  refine wpList_append_own _ hgd s x t ho base e i z 2 bytes ht hi hz hsize hby hzs (by decide) _ n xs hs (hown.alloc _) ⟨w.heap.size, 0, none⟩ 1 1 [u, v] hx rfl ?_ ?_ h63 hbytes (by simp; omega) ?_
  · intro j y hj
    match j, hj with
    | 0, hj => simp at hj; subst hj; simp [Addr.add]
    | 1, hj => simp at hj; subst hj; simp [Addr.add]
  · intro y hy; simp at hy; rcases hy with rfl | rfl <;> assumption
  · intro v' w' hown' hg _
    obtain ⟨g', c', hv, hg', hs'⟩ := hown'.form (by omega)
    subst hv
    refine h g' c' w' hown' (Below.grown ((Below.refl base w).alloc hbase _) hg (by simp; omega) ?_)
    intro k hk
    exact (hown.lt k hk).1
/-- what the call owns stays owned behind a contract that turns nothing below the heap's size -/
theorem own_below2 {w w' : World} {base : Nat} {e : TypeId} {v : Value} {n : Nat} {xs : List Value} (h : w.ownsRow base e 2 v n xs) (hb : Below w.heap.size w w') : w'.ownsRow base e 2 v n xs := by
  refine ⟨h.1, ?_⟩
  rcases h.2 with hn | ⟨g, cap, cur, rfl, hb', hg, rest⟩
  · exact .inl hn
  · refine .inr ⟨g, cap, cur, rfl, hb', ?_, rest⟩
    rw [hb.block g (Array.getElem?_eq_some_iff.1 hg).1]; exact hg

theorem own_base {w : World} {base base' : Nat} {k : Nat} {e : TypeId} {v : Value} {n : Nat} {xs : List Value} (h : w.ownsRow base e k v n xs) (hb : base' ≤ base) : w.ownsRow base' e k v n xs := by
  refine ⟨h.1, ?_⟩
  rcases h.2 with hn | ⟨g, cap, cur, h1, h2, rest⟩
  · exact .inl hn
  · exact .inr ⟨g, cap, cur, h1, Nat.le_trans hb h2, rest⟩
/-- the cells of a list -/
def cl (l : List P2) : List Value := l.flatMap fun x => [.int .i64 x.1, .int .i64 x.2]
theorem cells2_lst (f : Nat → P2) (n : Nat) : cells2 f n = cl (lst f n) := by
  induction n with
  | zero => rfl
  | succ n ih => rw [cells2, lst_succ, cl, List.flatMap_append, ih]; simp [cl]
theorem cl_lf (l : List P2) : cl l = cells2 (lf l) l.length := by rw [cells2_lst, lst_lf]
theorem cl_add (l : List P2) (a : P2) : cl (l ++ [a]) = cl l ++ [.int .i64 a.1, .int .i64 a.2] := by simp [cl, List.flatMap_append]
theorem QReads.of_list {w : World} {base c : Nat} {e : TypeId} {A : Option Addr} {l : List P2} (h : w.ownsRow base e 2 (.slice A l.length c) l.length (cl l)) : QReads w w.heap.size A l.length (lf l) := by
  rw [cl_lf] at h
  exact QReads.of_own h

/-- the positions of the square -/
def sq (r : Int) (n : Nat) : Nat → P2 := ptF (-r) (-r) n
theorem ptF_bd (r : Int) (n k : Nat) (h1 : 0 ≤ r) (h2 : r ≤ 2) (hn : 2 * r + 1 = (n : Int)) (hk : k < n * n) : -4 ≤ (sq r n k).1 ∧ (sq r n k).1 ≤ 4 ∧ -4 ≤ (sq r n k).2 ∧ (sq r n k).2 ≤ 4 := by
  have hn0 : 0 < n := by omega
  have a1 := Nat.mod_lt k hn0
  have a2 : k / n < n := Nat.div_lt_of_lt_mul hk
  unfold sq ptF
  simp only
  generalize k % n = u at a1 ⊢
  generalize k / n = v at a2 ⊢
  omega

set_option maxRecDepth 100000 in
set_option maxHeartbeats 2000000 in
theorem collect_any (r : Int) (n N : Nat) (G : Nat) (cb : Array Value) (pd : P2 → Bool) (w : World) (h1 : 0 ≤ r) (h2 : r ≤ 2) (hn : 2 * r + 1 = (n : Int)) (hN : n * n = N)
    (eg : ∀ args w, (callFunc G args).run Tryd.prog w = .ok (.enter G args) w)
    (HC : ∀ x y w1, -4 ≤ x → x ≤ 4 → -4 ≤ y → y ≤ 4 → Below w.heap.size w w1 → Calls Tryd.prog G (#[.agg #[.int .i64 x, .int .i64 y]] ++ cb) w1 fun e w' => e = .returned (.bool (pd (x, y))) ∧ Below w1.heap.size w1 w') :
    Calls Tryd.prog 77 #[.int .i64 r, .func (.func G) #[] cb] w fun e w' => ∃ A c l, e = .returned (.slice A l.length c) ∧ l = (lst (sq r n) N).filter pd ∧ w'.ownsRow w.heap.size 40 2 (.slice A l.length c) l.length (cl l) ∧ Below w.heap.size w w' := by
  obtain ⟨i0, hi, hz0, hz1, hz2⟩ := info_parts Tryd.info_point
  have hN5 : N ≤ 25 := by
    have : n ≤ 5 := by omega
    rw [← hN]; exact Nat.mul_le_mul this this
  have SQ := Lib.hid (fun w => square_any r n w h1 h2 hn)
  have PT := Lib.hid (fun w => points_any (-r) (-r) n n N w (by unfold Ok OkS; omega) hN (by omega))
  have HB := Lib.hid (fun k (hk : k < N) => ptF_bd r n k h1 h2 hn (by rw [hN]; exact hk))
  have zz := Lib.hid HC
  (try clear HC)
  have HC := zz
  clear zz
  clear hn hN
  go_enter Tryd.func77, Tryd.ntmps77
  go_wp2_with (first
    | (go_at_call 28; (with_reducible refine (SQ.out _).mono ?_); rintro e w1 ⟨rfl, hb⟩; have B1 := Lib.hid hb; clear hb)
    | (go_at_call 88; (with_reducible refine (PT.out _).mono ?_); rintro e w2 ⟨g, rfl, hr, hb⟩; have R2 := Lib.hid (show PReads w2 w2.heap.size g N (sq r n) from hr); have B2 := Lib.hid (B1.out.trans (hb.mono B1.out.size)); clear hb hr))
  clear SQ PT
  go_loopw [5, 18] (fun lv jv wr => ∃ (j : Nat) (l : List P2) (A : Option Addr) (c : Nat), j ≤ N ∧ jv = .int .i64 (j : Int) ∧ l.length ≤ j ∧ lv = .slice A l.length c ∧ l = (lst (sq r n) j).filter pd ∧ wr.ownsRow w2.heap.size 40 2 (.slice A l.length c) l.length (cl l) ∧ Below w2.heap.size w2 wr) (fun _ jv _ => N - (intOf jv).toNat)
  case atStart => exact ⟨0, [], none, 0, Nat.zero_le _, rfl, Nat.le_refl _, rfl, rfl, World.ownsRow_nil _ _ _ _, Below.refl _ _⟩
  case round =>
    obtain ⟨j, l, A, c, hj, rfl, hl, rfl, hll, hown, hbel⟩ := hrel
    have HL := Lib.hid hll
    have HW := Lib.hid hown
    have HR := Lib.hid ((R2.out.below hbel).more hbel.size)
    have HE := Lib.hid hbel
    clear hll hown hbel
    by_cases hjn : j < N
    · obtain ⟨⟨x, y⟩, hx⟩ : ∃ x, x = sq r n j := ⟨_, rfl⟩
      obtain ⟨b1, b2, b3, b4⟩ := HB.out j hjn
      obtain ⟨c0, c1⟩ := HR.out.2 j hjn
      have hgw := HR.out.1
      rw [← hx] at c0 c1 b1 b2 b3 b4
      simp only at c0 c1 b1 b2 b3 b4
      have HX := Lib.hid hx
      clear hx
      have BW := Lib.hid ((Below.refl wr.heap.size wr).alloc (Nat.le_refl _) (.cells #[.int .i64 x, .int .i64 y] 40))
      have K7 := Lib.hid (Blk.new wr 40 #[.int .i64 x, .int .i64 y])
      have B7 := Lib.hid (HE.out.alloc HE.out.size (.cells #[.int .i64 x, .int .i64 y] 40))
      have C1 := fun w1 (h : Below w2.heap.size w2 w1) => HC.out x y w1 b1 b2 b3 b4 (B2.out.trans (h.mono B2.out.size))
      have step := fun (l' : List P2) (e : l' = if pd (x, y) = true then l ++ [(x, y)] else l) => (show l' = (lst (sq r n) (j + 1)).filter pd by
        rw [e, lst_succ, List.filter_append, ← HL.out, ← HX.out]
        by_cases hp : pd (x, y) = true <;> simp [hp])
      have STEP := Lib.hid step
      clear step
      generalize pd (x, y) = q at C1 STEP
      have zz := Lib.hid C1
      (try clear C1)
      have C1 := zz
      clear zz
      clear b1 b2 b3 b4
      cases q with
      | true =>
        go_wp2_with (first
          | (at_builtin; refine wpList_append2 rfl _ _ 22 rfl w2.heap.size 40 i0 (.agg #[.int .i64 0, .int .i64 0]) 16 Tryd.underlying22 hi hz0 hz1 hz2 rfl A l.length c _ rfl W4 (.int .i64 x) (.int .i64 y) rfl rfl rfl (by unfold maxLen; omega) (by omega) hs4 ?_; intro g5 c5 w5 hown5 hbel5)
          | ((with_reducible refine (C1.out _ B7.out).mono ?_); rintro e w4 ⟨rfl, hb⟩; obtain ⟨k0, k1, k2, k3, k4⟩ := (K7.out.below hb K7.out.lt).two; have BX := Lib.hid (BW.out.trans (hb.mono BW.out.size)); have B4 := Lib.hid (HE.out.trans (BX.out.mono HE.out.size)); have W4 := own_below2 HW.out BX.out; have hs4 := B4.out.size; clear hb))
        go_roundw
        case rel =>
          refine ⟨j + 1, l ++ [(x, y)], some ⟨g5, 0, none⟩, c5, by omega, by go_num, by (simp; omega), by simp, STEP.out _ rfl, by (rw [cl_add]; simpa using hown5), B4.out.trans hbel5⟩
        case measure => simp [intOf]; omega
      | false =>
        go_wp2_with (first
          | ((with_reducible refine (C1.out _ B7.out).mono ?_); rintro e w4 ⟨rfl, hb⟩; have BX := Lib.hid (BW.out.trans (hb.mono BW.out.size)); have B4 := Lib.hid (HE.out.trans (BX.out.mono HE.out.size)); have W4 := own_below2 HW.out BX.out; clear hb))
        go_roundw
        case rel =>
          exact ⟨j + 1, l, A, c, by omega, by go_num, by omega, rfl, STEP.out _ rfl, W4, B4.out⟩
        case measure => simp [intOf]; omega
    · obtain rfl : j = N := by omega
      go_wp2
      go_ret
      exact ⟨A, c, l, rfl, HL.out, own_base HW.out B2.out.size, B2.out.trans (HE.out.mono B2.out.size)⟩
end Go.Proofs.YthgnjjpkmikokaaDoor
namespace Go.Proofs.YthgnjjpkmikokaaDoor
open Go.RowKit

/-- a valid neighbourhood -/
def Hd (f : Nat → P2) (n : Nat) : Prop := (1 ≤ n ∧ n ≤ 25) ∧ (∀ i, i < n → -2 ≤ (f i).1 ∧ (f i).1 ≤ 2 ∧ -2 ≤ (f i).2 ∧ (f i).2 ≤ 2) ∧ ∀ i, i < n - 1 → pc (f i) (f (i + 1)) < 0
instance (f : Nat → P2) (n : Nat) : Decidable (Hd f n) := by unfold Hd; exact inferInstance

theorem last_any (x y ww hh : Int) (w : World) (hx : -1048576 ≤ x) (hx' : x ≤ 1048576) (hy : -1048576 ≤ y) (hy' : y ≤ 1048576) (h1 : 1 ≤ ww) (h2 : ww ≤ 2097153) (h3 : 1 ≤ hh) (h4 : hh ≤ 2097153) :
    Calls Tryd.prog 61 #[.agg #[.int .i64 x, .int .i64 y, .int .i64 ww, .int .i64 hh]] w fun e w' => e = .returned (.agg #[.int .i64 (x + ww - 1), .int .i64 (y + hh - 1)]) ∧ Below w.heap.size w w' := by
  go_enter Tryd.func61, Tryd.ntmps61
  go_wp2
  refine bodyPost_ret (v := .agg #[.int .i64 (x + ww - 1), .int .i64 (y + hh - 1)]) (by simp [results, Tryd.results61, go_sem]) rfl ⟨rfl, ?_⟩
  exact ((Below.refl _ _).alloc (Nat.le_refl _) _).alloc (by simp) _
set_option maxHeartbeats 1000000 in
theorem in_any (x y : Int) (w : World) (hx : -2 ≤ x) (hx' : x ≤ 2) (hy : -2 ≤ y) (hy' : y ≤ 2) :
    Calls Tryd.prog 27 #[.agg #[.int .i64 (-2), .int .i64 (-2), .int .i64 5, .int .i64 5], .agg #[.int .i64 x, .int .i64 y]] w fun e w' => e = .returned (.bool true) ∧ Below w.heap.size w w' := by
  have R := Lib.hid (fun w => right_yes (-2) (-2) 5 5 w (by unfold Ok OkS; omega))
  have L := Lib.hid (fun w => by have := last_any (-2) (-2) 5 5 w (by omega) (by omega) (by omega) (by omega) (by omega) (by omega) (by omega) (by omega); rwa [show (-2 : Int) + 5 - 1 = 2 by decide] at this)
  have K1 := (Blk.new w 58 #[.int .i64 (-2), .int .i64 (-2), .int .i64 5, .int .i64 5]).alloc (.cells #[.int .i64 x, .int .i64 y] 40)
  have K2 := Blk.new (w.alloc (.cells #[.int .i64 (-2), .int .i64 (-2), .int .i64 5, .int .i64 5] 58)) 40 #[.int .i64 x, .int .i64 y]
  rw [show (w.alloc (.cells #[.int .i64 (-2), .int .i64 (-2), .int .i64 5, .int .i64 5] 58)).heap.size = w.heap.size + 1 by simp] at K2
  have B2 : Below w.heap.size w ((w.alloc (.cells #[.int .i64 (-2), .int .i64 (-2), .int .i64 5, .int .i64 5] 58)).alloc (.cells #[.int .i64 x, .int .i64 y] 40)) := ((Below.refl _ _).alloc (Nat.le_refl _) _).alloc (by simp) _
  go_enter Tryd.func27, Tryd.ntmps27
  go_wp2_with fail
  generalize (w.alloc (.cells #[.int .i64 (-2), .int .i64 (-2), .int .i64 5, .int .i64 5] 58)).alloc (.cells #[.int .i64 x, .int .i64 y] 40) = w0 at K1 K2 B2 ⊢
  obtain ⟨a0, a1, a2, a3, a4⟩ := K1.four
  have K1 := Lib.hid K1
  have K2 := Lib.hid K2
  have B2 := Lib.hid B2
  go_wp2_with (first
    | (go_at_call 60; (with_reducible refine (R.out _).mono ?_); rintro e w1 ⟨rfl, hb⟩; have B3 := Lib.hid (B2.out.trans (hb.mono B2.out.size)); have C3 := Lib.hid hb; obtain ⟨b0, b1, b2, b3, b4⟩ := (K1.out.below hb K1.out.lt).four; clear hb)
    | (go_at_call 61; (with_reducible refine (L.out _).mono ?_); rintro e w2 ⟨rfl, hb⟩; have B4 := Lib.hid (B3.out.trans (hb.mono B3.out.size)); have C4 := C3.out.trans (hb.mono C3.out.size); obtain ⟨d0, d1, d2, d3, d4⟩ := ((K1.out.below C4 K1.out.lt).alloc (.cells #[.int .i64 2, .int .i64 2] 40)).four; obtain ⟨e0, e1, e2, e3, e4⟩ := ((K2.out.below C4 K2.out.lt).alloc (.cells #[.int .i64 2, .int .i64 2] 40)).two; have B5 := Lib.hid (B4.out.alloc B4.out.size (.cells #[.int .i64 2, .int .i64 2] 40)); clear hb C4))
  go_ret
  exact ⟨rfl, B5.out⟩
theorem hright_nil (w : World) : Calls Tryd.prog 8 #[.slice none 0 0] w fun e w' => e = .returned (.bool false) ∧ Below w.heap.size w w' := by
  go_enter Tryd.func8, Tryd.ntmps8
  go_wp2
  go_ret
  exact ⟨rfl, Below.refl _ _⟩
set_option maxRecDepth 100000 in
set_option maxHeartbeats 2000000 in
theorem hright_any (A : Option Addr) (n c : Nat) (f : Nat → P2) (w : World) (h : QReads w w.heap.size A n f) (hd : Hd f n) :
    Calls Tryd.prog 8 #[.slice A n c] w fun e w' => e = .returned (.bool true) ∧ Below w.heap.size w w' := by
  obtain ⟨⟨hn1, hn2⟩, hin, hup⟩ := hd
  have hl1 : ¬ ((n : Int) < 1) := by omega
  have hl2 : ¬ (25 < (n : Int)) := by omega
  have H := Lib.hid h
  have HI := Lib.hid hin
  have HU := Lib.hid hup
  have SQ := Lib.hid (fun w => square_any 2 5 w (by omega) (by omega) (by omega))
  clear h hin hup
  go_enter Tryd.func8, Tryd.ntmps8
  go_wp2
  go_loopw [15] (fun iv wr => ∃ j : Nat, j ≤ n ∧ iv = .int .i64 (j : Int) ∧ Below w.heap.size w wr) (fun iv _ => n - (intOf iv).toNat)
  case atStart => exact ⟨0, Nat.zero_le _, rfl, Below.refl _ _⟩
  case round =>
    obtain ⟨j, hj, rfl, hbel⟩ := hrel
    have R := H.out.below hbel
    have HB := Lib.hid hbel
    by_cases hjn : j < n
    · obtain ⟨g1, o1, rfl, hb1, hc1⟩ := R (by omega)
      have c1 := hc1 j hjn
      have hgw : g1 < wr.heap.size := Nat.lt_of_lt_of_le hb1 hbel.size
      have hx4 := HI.out j hjn
      clear hbel
      obtain ⟨⟨x1, x2⟩, hx⟩ : ∃ x, x = f j := ⟨_, rfl⟩
      rw [← hx] at c1 hx4
      obtain ⟨c10, c11⟩ := c1
      simp only at c10 c11 hx4
      have IN := Lib.hid (fun w => in_any x1 x2 w hx4.1 hx4.2.1 hx4.2.2.1 hx4.2.2.2)
      have K7 := Lib.hid (Blk.new wr 40 #[.int .i64 x1, .int .i64 x2])
      have B7 := Lib.hid (HB.out.alloc HB.out.size (.cells #[.int .i64 x1, .int .i64 x2] 40))
      have BW := Lib.hid ((Below.refl wr.heap.size wr).alloc (Nat.le_refl _) (.cells #[.int .i64 x1, .int .i64 x2] 40))
      have HX := Lib.hid hx
      have S7 : wr.heap.size < (wr.alloc (.cells #[.int .i64 x1, .int .i64 x2] 40)).heap.size := by simp
      by_cases hj0 : j = 0
      · subst hj0
        simp only [Nat.zero_mul, Nat.add_zero, Nat.zero_add] at c10 c11
        clear hc1 R hx hx4
        go_wp2_with fail
        generalize wr.alloc (.cells #[.int .i64 x1, .int .i64 x2] 40) = w1 at K7 B7 BW S7 ⊢
        have q0 := fun p : LowW w1.heap.size w1 => (K7.out.below p.below K7.out.lt).two.1
        have q1 := fun p : LowW w1.heap.size w1 => (K7.out.below p.below K7.out.lt).two.2.1
        refine wp_region_low w1.heap.size w1 (by kernel_rfl) (by kernel_rfl) (Below.refl _ _) ?_
        repeat (quiet_step (first | (go_at_call 28; with_reducible exact LowW.of_call _ (Nat.le_refl _) (SQ.out _)) | (go_at_call 27; with_reducible exact LowW.of_call _ (Nat.le_refl _) (IN.out _))))
        refine wpQuiet_nil ?_
        rintro w2 ⟨p, rfl⟩
        have B2 := Lib.hid (B7.out.trans (p.below.mono B7.out.size))
        clear q0 q1
        generalize p.w = w2 at B2 ⊢
        go_wp2_with fail
        go_region
        all_goals go_wp2
        all_goals go_roundw
        case rel => exact ⟨0 + 1, by omega, by go_num, B2.out.drew⟩
        case measure => simp [intOf]; omega
      · obtain ⟨i, hi⟩ : ∃ i, j = i + 1 := ⟨j - 1, by omega⟩
        have hin : i < n := by omega
        have e1 : (j : Int) - 1 = (i : Int) := by omega
        have hd1 : decide (0 < (j : Int)) = true := by rw [decide_eq_true_iff]; omega
        have hd2 : decide (0 < j) = true := by rw [decide_eq_true_iff]; omega
        have hw1 : IntKind.i64.wrap ((j : Int) - 1) = (i : Int) := by rw [e1]; exact IntWalk.i64_in _ (by omega)
        have c2 := hc1 i hin
        have hr := HU.out i (by omega)
        rw [← hi, ← hx] at hr
        obtain ⟨⟨y1, y2⟩, hy⟩ : ∃ y, y = f i := ⟨_, rfl⟩
        rw [← hy] at c2 hr
        have hr : or2 (sg y2 x2) (sg y1 x1) < 0 := hr
        have P := fun w => pcompare_any y1 y2 x1 x2 w
        generalize or2 (sg y2 x2) (sg y1 x1) = r at P hr
        have zz := Lib.hid P
        (try clear P)
        have P := zz
        clear zz
        have C2 := Lib.hid c2
        have hnr : ¬ (0 ≤ r) := by omega
        clear hc1 R hx hx4 hy hi hj0 c2 e1
        go_wp2_with fail
        generalize wr.alloc (.cells #[.int .i64 x1, .int .i64 x2] 40) = w1 at K7 B7 BW S7 ⊢
        have q0 := fun p : LowW w1.heap.size w1 => (K7.out.below p.below K7.out.lt).two.1
        have q1 := fun p : LowW w1.heap.size w1 => (K7.out.below p.below K7.out.lt).two.2.1
        refine wp_region_low w1.heap.size w1 (by kernel_rfl) (by kernel_rfl) (Below.refl _ _) ?_
        repeat (quiet_step (first | (go_at_call 28; with_reducible exact LowW.of_call _ (Nat.le_refl _) (SQ.out _)) | (go_at_call 27; with_reducible exact LowW.of_call _ (Nat.le_refl _) (IN.out _))))
        refine wpQuiet_nil ?_
        rintro w2 ⟨p, rfl⟩
        have B2 := Lib.hid (B7.out.trans (p.below.mono B7.out.size))
        have BX := Lib.hid (BW.out.trans (p.below.mono BW.out.size))
        have K8 := Lib.hid (K7.out.below p.below K7.out.lt)
        clear q0 q1
        generalize p.w = w2 at B2 BX K8 ⊢
        go_wp2_with fail
        have d0 := fun p : LowW w2.heap.size w2 => LowW.cell (a := ⟨g1, o1 + i * 2, none⟩) (Nat.lt_of_lt_of_le hgw BX.out.size) ((BX.out.cell hgw).trans C2.out.1) p
        have d1 := fun p : LowW w2.heap.size w2 => LowW.cell (a := ⟨g1, o1 + i * 2 + 1, none⟩) (Nat.lt_of_lt_of_le hgw BX.out.size) ((BX.out.cell hgw).trans C2.out.2) p
        have q0 := fun p : LowW w2.heap.size w2 => (K8.out.below p.below K8.out.lt).two.1
        have q1 := fun p : LowW w2.heap.size w2 => (K8.out.below p.below K8.out.lt).two.2.1
        clear c10 c11
        refine wp_region_low w2.heap.size w2 (by kernel_rfl) (by kernel_rfl) (Below.refl _ _) ?_
        repeat (quiet_step (first | (go_at_call 29; with_reducible exact LowW.of_call _ (Nat.le_refl _) (P.out _))))
        refine wpQuiet_nil ?_
        rintro w3 ⟨p, rfl⟩
        have B3 := Lib.hid (B2.out.trans (p.below.mono B2.out.size))
        clear d0 d1 q0 q1 hw1
        generalize p.w = w3 at B3 ⊢
        go_wp2
        go_roundw
        case rel => exact ⟨j + 1, by omega, by go_num, B3.out⟩
        case measure => simp [intOf]; omega
    · obtain rfl : j = n := by omega
      clear R hbel
      go_wp2
      go_ret
      exact ⟨rfl, HB.out⟩
end Go.Proofs.YthgnjjpkmikokaaDoor
namespace Go.Proofs.YthgnjjpkmikokaaDoor
open Go.RowKit

/-- what the predicates say -/
def pdM (_ : P2) : Bool := true
/-- the usual neighbourhoods -/
def M1 : List P2 := (lst (sq 1 3) 9).filter pdM
def M2 : List P2 := (lst (sq 2 5) 25).filter pdM
theorem len_M1 : M1.length = 9 := by decide +kernel
theorem len_M2 : M2.length = 25 := by decide +kernel
theorem moore_any (r : Int) (n N m : Nat) (w : World) (h1 : 0 ≤ r) (h2 : r ≤ 2) (hn : 2 * r + 1 = (n : Int)) (hN : n * n = N) (hm : ((lst (sq r n) N).filter pdM).length = m) :
    Calls Tryd.prog 52 #[.int .i64 r] w fun e w' => ∃ A c, e = .returned (.slice A m c) ∧ QReads w' w'.heap.size A m (lf ((lst (sq r n) N).filter pdM)) ∧ Below w.heap.size w w' := by
  have C := Lib.hid (collect_any r n N 78 #[] pdM w h1 h2 hn hN (enters_of Tryd.func78 (by kernel_rfl) rfl) (fun x y w1 _ _ _ _ _ => fnMoore_any x y w1))
  subst hm
  clear hn hN
  go_enter Tryd.func52, Tryd.ntmps52
  go_wp2_with (go_at_call 77; (with_reducible refine C.out.mono ?_); rintro e w' ⟨A, c, l, rfl, hl, hr, hb⟩; have R := Lib.hid (QReads.of_list hr); have HL := Lib.hid hl; have HB := Lib.hid hb; clear hr hb hl)
  go_ret
  have hl := HL.out
  subst hl
  exact ⟨A, c, rfl, R.out, HB.out⟩
theorem moore1 (w : World) : Calls Tryd.prog 52 #[.int .i64 1] w fun e w' => ∃ A c, e = .returned (.slice A 9 c) ∧ QReads w' w'.heap.size A 9 (lf M1) ∧ Below w.heap.size w w' := moore_any 1 3 9 9 w (by omega) (by omega) (by omega) (by omega) len_M1
theorem moore2 (w : World) : Calls Tryd.prog 52 #[.int .i64 2] w fun e w' => ∃ A c, e = .returned (.slice A 25 c) ∧ QReads w' w'.heap.size A 25 (lf M2) ∧ Below w.heap.size w w' := moore_any 2 5 25 25 w (by omega) (by omega) (by omega) (by omega) len_M2
end Go.Proofs.YthgnjjpkmikokaaDoor
namespace Go.Proofs.YthgnjjpkmikokaaDoor
open Go.RowKit

theorem ret_int {k : IntKind} {a b : Int} (h : a = b) : Ending.returned (.int k a) = .returned (.int k b) := by rw [h]
/-- a list of numbers as cells -/
def il (l : List Int) : List Value := l.map fun x => .int .i64 x
theorem il_len (l : List Int) : (il l).length = l.length := by simp [il]
theorem il_add (l : List Int) (x : Int) : il (l ++ [x]) = il l ++ [.int .i64 x] := by simp [il]
/-- number k of a list -/
def ig (l : List Int) (k : Nat) : Int := l.getD k 0
theorem Reads.later {w w' : World} {A : Option Addr} {n : Nat} {xs : List Value} (h : Reads w w.heap.size A n xs) (hb : Below w.heap.size w w') : Reads w' w'.heap.size A n xs := (h.below hb).more hb.size
theorem il_at {w : World} {B n : Nat} {A : Option Addr} {l : List Int} (h : Reads w B A n (il l)) {k : Nat} (hk : k < n) :
    ∃ ad, A = some ad ∧ ad.block < B ∧ w.cell? (ad.add k) = some (.int .i64 (ig l k)) := by
  obtain ⟨ad, u, e, hb, hx, hc⟩ := h.at_ hk
  refine ⟨ad, e, hb, ?_⟩
  rw [hc, ← hx]
  simp only [il, List.getElem?_map, ig, List.getD] at hx ⊢
  cases h' : l[k]? with
  | none => rw [h'] at hx; cases hx
  | some d => simp
theorem reads_len {w : World} {B n : Nat} {A : Option Addr} {l : List Int} (h : Reads w B A n (il l)) : l.length = n := by simpa [il] using h.1
theorem ig_mem {l : List Int} {j : Nat} (h : j < l.length) : ig l j ∈ l := by
  rw [ig, List.getD_eq_getElem?_getD, List.getElem?_eq_getElem h]; exact List.getElem_mem h
theorem mem_ig {l : List Int} {k : Int} (h : k ∈ l) : ∃ j, j < l.length ∧ ig l j = k := by
  obtain ⟨j, hj, rfl⟩ := List.getElem_of_mem h
  exact ⟨j, hj, by rw [ig, List.getD_eq_getElem?_getD, List.getElem?_eq_getElem hj]; rfl⟩

end Go.Proofs.YthgnjjpkmikokaaDoor
