/- The walk of collect with any pure predicate. -/
import Derived.Test.YtbcihgimflljoaaGreatDoorSize
import Derived.Test.YtbcihgimflljoaaGreatDoorPts
import Derived.Test.YtbcihgimflljoaaGreatDoorPerm
namespace Go.Proofs.YtbcihgimflljoaaGreatDoor
open Go.RowKit

/-- append of one position onto a row of the call's own -/
theorem wpList_append2 {P : Program} {w : World} {ops : Array Oper} {rest : List Oper} {o : Oper} {a : Act} {Q : Exit → Act → World → Prop} (hgd : o.guard = none) (s x : Operand) (t : TypeId)
    (ho : o.op = .call { callee := .builtin .append, args := #[s, x], argTypes := #[t, t] })
    (base : Nat) (e : TypeId) (i : TypeInfo) (z : Value) (bytes : Nat) (ht : P.underlying t = some (.slice e)) (hi : P.info? e = some i) (hz : i.zero = some z)
    (hsize : i.size = 2) (hby : i.bytes = bytes) (hzs : z.cells.size = 2)
    (A : Option Addr) (n c : Nat) (xs : List Value) (hs : a.eval s = .slice A n c) (hown : w.ownsRow base e 2 (.slice A n c) n xs) (u v : Value)
    (hx : a.eval x = .slice (some ⟨w.heap.size, 0, none⟩) 1 1) (h1 : u.oneCell' = true) (h2 : v.oneCell' = true) (h63 : n + 1 ≤ maxLen) (hbytes : (n + 1) * bytes ≤ 140737488355328) (hbase : base ≤ w.heap.size)
    (h : ∀ g' c' w', w'.ownsRow base e 2 (.slice (some ⟨g', 0, none⟩) (n + 1) c') (n + 1) (xs ++ [u, v]) → Below base w w' → wpList P ops Q rest (a.put o.dst (.slice (some ⟨g', 0, none⟩) (n + 1) c')) w') :
    wpList P ops Q (o :: rest) a (w.alloc (.cells #[u, v] e)) := by
  refine wpList_append_own _ hgd s x t ho base e i z 2 bytes ht hi hz hsize hby hzs (by decide) _ n xs hs (hown.alloc _) ⟨w.heap.size, 0, none⟩ 1 1 [u, v] hx rfl ?_ ?_ h63 hbytes (by simp; omega) ?_
  · intro j y hj
    match j, hj with
    | 0, hj => simp at hj; subst hj; simp [Addr.add]
    | 1, hj => simp at hj; subst hj; simp [Addr.add]
  · intro y hy; simp at hy; rcases hy with rfl | rfl <;> assumption
  · intro v' w' hown' hg _
    obtain ⟨g', c', hv, hg', hs'⟩ := hown'.form (by omega)
    subst hv
    refine h g' c' w' hown' (Below.grown ((Below.refl base w).alloc hbase _) hg (by simp; omega) ?_)
    intro k hk
    exact (hown.lt k hk).1
/-- what the call owns stays owned behind a contract that turns nothing below the heap's size -/
theorem own_below2 {w w' : World} {base : Nat} {e : TypeId} {v : Value} {n : Nat} {xs : List Value} (h : w.ownsRow base e 2 v n xs) (hb : Below w.heap.size w w') : w'.ownsRow base e 2 v n xs := by
  refine ⟨h.1, ?_⟩
  rcases h.2 with hn | ⟨g, cap, cur, rfl, hb', hg, rest⟩
  · exact .inl hn
  · refine .inr ⟨g, cap, cur, rfl, hb', ?_, rest⟩
    rw [hb.block g (Array.getElem?_eq_some_iff.1 hg).1]; exact hg

theorem own_base {w : World} {base base' : Nat} {k : Nat} {e : TypeId} {v : Value} {n : Nat} {xs : List Value} (h : w.ownsRow base e k v n xs) (hb : base' ≤ base) : w.ownsRow base' e k v n xs := by
  refine ⟨h.1, ?_⟩
  rcases h.2 with hn | ⟨g, cap, cur, h1, h2, rest⟩
  · exact .inl hn
  · exact .inr ⟨g, cap, cur, h1, Nat.le_trans hb h2, rest⟩
/-- the cells of a list -/
def cl (l : List P2) : List Value := l.flatMap fun x => [.int .i64 x.1, .int .i64 x.2]
theorem cells2_lst (f : Nat → P2) (n : Nat) : cells2 f n = cl (lst f n) := by
  induction n with
  | zero => rfl
  | succ n ih => rw [cells2, lst_succ, cl, List.flatMap_append, ih]; simp [cl]
theorem cl_lf (l : List P2) : cl l = cells2 (lf l) l.length := by rw [cells2_lst, lst_lf]
theorem cl_add (l : List P2) (a : P2) : cl (l ++ [a]) = cl l ++ [.int .i64 a.1, .int .i64 a.2] := by simp [cl, List.flatMap_append]
theorem QReads.of_list {w : World} {base c : Nat} {e : TypeId} {A : Option Addr} {l : List P2} (h : w.ownsRow base e 2 (.slice A l.length c) l.length (cl l)) : QReads w w.heap.size A l.length (lf l) := by
  rw [cl_lf] at h
  exact QReads.of_own h

/-- the positions of the square -/
def sq (r : Int) (n : Nat) : Nat → P2 := ptF (-r) (-r) n
theorem ptF_bd (r : Int) (n k : Nat) (h1 : 0 ≤ r) (h2 : r ≤ 2) (hn : 2 * r + 1 = (n : Int)) (hk : k < n * n) : -4 ≤ (sq r n k).1 ∧ (sq r n k).1 ≤ 4 ∧ -4 ≤ (sq r n k).2 ∧ (sq r n k).2 ≤ 4 := by
  have hn0 : 0 < n := by omega
  have a1 := Nat.mod_lt k hn0
  have a2 : k / n < n := Nat.div_lt_of_lt_mul hk
  unfold sq ptF
  simp only
  generalize k % n = u at a1 ⊢
  generalize k / n = v at a2 ⊢
  omega

set_option maxRecDepth 100000 in
set_option maxHeartbeats 2000000 in
theorem collect_any (r : Int) (n N : Nat) (G : Nat) (cb : Array Value) (pd : P2 → Bool) (w : World) (h1 : 0 ≤ r) (h2 : r ≤ 2) (hn : 2 * r + 1 = (n : Int)) (hN : n * n = N)
    (eg : ∀ args w, (callFunc G args).run Tryz.prog w = .ok (.enter G args) w)
    (HC : ∀ x y w1, -4 ≤ x → x ≤ 4 → -4 ≤ y → y ≤ 4 → Below w.heap.size w w1 → Calls Tryz.prog G (#[.agg #[.int .i64 x, .int .i64 y]] ++ cb) w1 fun e w' => e = .returned (.bool (pd (x, y))) ∧ Below w1.heap.size w1 w') :
    Calls Tryz.prog 119 #[.int .i64 r, .func (.func G) #[] cb] w fun e w' => ∃ A c l, e = .returned (.slice A l.length c) ∧ l = (lst (sq r n) N).filter pd ∧ w'.ownsRow w.heap.size 35 2 (.slice A l.length c) l.length (cl l) ∧ Below w.heap.size w w' := by
  obtain ⟨i0, hi, hz0, hz1, hz2⟩ := info_parts Tryz.info_point
  have hN5 : N ≤ 25 := by
    have : n ≤ 5 := by omega
    rw [← hN]; exact Nat.mul_le_mul this this
  have SQ := Lib.hid (fun w => square_any r n w h1 h2 hn)
  have PT := Lib.hid (fun w => points_any (-r) (-r) n n N w (by unfold Ok OkS; omega) hN (by omega))
  have HB := Lib.hid (fun k (hk : k < N) => ptF_bd r n k h1 h2 hn (by rw [hN]; exact hk))
  have zz := Lib.hid HC
  (try clear HC)
  have HC := zz
  clear zz
  clear hn hN
  go_enter Tryz.func119, Tryz.ntmps119
  go_wp2_with (first
    | (go_at_call 28; (with_reducible refine (SQ.out _).mono ?_); rintro e w1 ⟨rfl, hb⟩; have B1 := Lib.hid hb; clear hb)
    | (go_at_call 143; (with_reducible refine (PT.out _).mono ?_); rintro e w2 ⟨g, rfl, hr, hb⟩; have R2 := Lib.hid (show PReads w2 w2.heap.size g N (sq r n) from hr); have B2 := Lib.hid (B1.out.trans (hb.mono B1.out.size)); clear hb hr))
  clear SQ PT
  go_loopw [5, 18] (fun lv jv wr => ∃ (j : Nat) (l : List P2) (A : Option Addr) (c : Nat), j ≤ N ∧ jv = .int .i64 (j : Int) ∧ l.length ≤ j ∧ lv = .slice A l.length c ∧ l = (lst (sq r n) j).filter pd ∧ wr.ownsRow w2.heap.size 35 2 (.slice A l.length c) l.length (cl l) ∧ Below w2.heap.size w2 wr) (fun _ jv _ => N - (intOf jv).toNat)
  case atStart => exact ⟨0, [], none, 0, Nat.zero_le _, rfl, Nat.le_refl _, rfl, rfl, World.ownsRow_nil _ _ _ _, Below.refl _ _⟩
  case round =>
    obtain ⟨j, l, A, c, hj, rfl, hl, rfl, hll, hown, hbel⟩ := hrel
    have HL := Lib.hid hll
    have HW := Lib.hid hown
    have HR := Lib.hid ((R2.out.below hbel).more hbel.size)
    have HE := Lib.hid hbel
    clear hll hown hbel
    by_cases hjn : j < N
    · obtain ⟨⟨x, y⟩, hx⟩ : ∃ x, x = sq r n j := ⟨_, rfl⟩
      obtain ⟨b1, b2, b3, b4⟩ := HB.out j hjn
      obtain ⟨c0, c1⟩ := HR.out.2 j hjn
      have hgw := HR.out.1
      rw [← hx] at c0 c1 b1 b2 b3 b4
      simp only at c0 c1 b1 b2 b3 b4
      have HX := Lib.hid hx
      clear hx
      have BW := Lib.hid ((Below.refl wr.heap.size wr).alloc (Nat.le_refl _) (.cells #[.int .i64 x, .int .i64 y] 35))
      have K7 := Lib.hid (Blk.new wr 35 #[.int .i64 x, .int .i64 y])
      have B7 := Lib.hid (HE.out.alloc HE.out.size (.cells #[.int .i64 x, .int .i64 y] 35))
      have C1 := fun w1 (h : Below w2.heap.size w2 w1) => HC.out x y w1 b1 b2 b3 b4 (B2.out.trans (h.mono B2.out.size))
      have step := fun (l' : List P2) (e : l' = if pd (x, y) = true then l ++ [(x, y)] else l) => (show l' = (lst (sq r n) (j + 1)).filter pd by
        rw [e, lst_succ, List.filter_append, ← HL.out, ← HX.out]
        by_cases hp : pd (x, y) = true <;> simp [hp])
      have STEP := Lib.hid step
      clear step
      generalize pd (x, y) = q at C1 STEP
      have zz := Lib.hid C1
      (try clear C1)
      have C1 := zz
      clear zz
      clear b1 b2 b3 b4
      cases q with
      | true =>
        go_wp2_with (first
          | (at_builtin; refine wpList_append2 rfl _ _ 22 rfl w2.heap.size 35 i0 (.agg #[.int .i64 0, .int .i64 0]) 16 Tryz.underlying22 hi hz0 hz1 hz2 rfl A l.length c _ rfl W4 (.int .i64 x) (.int .i64 y) rfl rfl rfl (by unfold maxLen; omega) (by omega) hs4 ?_; intro g5 c5 w5 hown5 hbel5)
          | ((with_reducible refine (C1.out _ B7.out).mono ?_); rintro e w4 ⟨rfl, hb⟩; obtain ⟨k0, k1, k2, k3, k4⟩ := (K7.out.below hb K7.out.lt).two; have BX := Lib.hid (BW.out.trans (hb.mono BW.out.size)); have B4 := Lib.hid (HE.out.trans (BX.out.mono HE.out.size)); have W4 := own_below2 HW.out BX.out; have hs4 := B4.out.size; clear hb))
        go_roundw
        case rel =>
          refine ⟨j + 1, l ++ [(x, y)], some ⟨g5, 0, none⟩, c5, by omega, by go_num, by (simp; omega), by simp, STEP.out _ rfl, by (rw [cl_add]; simpa using hown5), B4.out.trans hbel5⟩
        case measure => simp [intOf]; omega
      | false =>
        go_wp2_with (first
          | ((with_reducible refine (C1.out _ B7.out).mono ?_); rintro e w4 ⟨rfl, hb⟩; have BX := Lib.hid (BW.out.trans (hb.mono BW.out.size)); have B4 := Lib.hid (HE.out.trans (BX.out.mono HE.out.size)); have W4 := own_below2 HW.out BX.out; clear hb))
        go_roundw
        case rel =>
          exact ⟨j + 1, l, A, c, by omega, by go_num, by omega, rfl, STEP.out _ rfl, W4, B4.out⟩
        case measure => simp [intOf]; omega
    · obtain rfl : j = N := by omega
      go_wp2
      go_ret
      exact ⟨A, c, l, rfl, HL.out, own_base HW.out B2.out.size, B2.out.trans (HE.out.mono B2.out.size)⟩
end Go.Proofs.YtbcihgimflljoaaGreatDoor
