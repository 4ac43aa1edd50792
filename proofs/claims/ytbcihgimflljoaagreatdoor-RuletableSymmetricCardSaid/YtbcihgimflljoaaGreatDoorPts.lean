/- The walk of Points: the positions of a valid box of at most 5000 positions, row by row. -/
import Derived.Test.YtbcihgimflljoaaGreatDoorCell
import Derived.Deep.CutRange
namespace Go.Proofs.YtbcihgimflljoaaGreatDoor
open Go.RowKit

theorem Tryz.info_point : (Tryz.prog.info? 35).map (fun i => (i.zero, i.size, i.bytes)) = some (some (.agg #[.int .i64 0, .int .i64 0]), 2, 16) := by kernel_rfl

/-- append of one value of two cells within the capacity of a row of the call's own -/
theorem wpList_fit2 {P : Program} {w : World} {ops : Array Oper} {rest : List Oper} {o : Oper} {a : Act} {Q : Exit → Act → World → Prop} (hgd : o.guard = none) (s x : Operand) (t : TypeId)
    (ho : o.op = .call { callee := .builtin .append, args := #[s, x], argTypes := #[t, t] })
    (base : Nat) (e : TypeId) (i : TypeInfo) (ht : P.underlying t = some (.slice e)) (hi : P.info? e = some i) (hsize : i.size = 2)
    (g k cap : Nat) (xs : List Value) (hs : a.eval s = .slice (some ⟨g, 0, none⟩) k cap) (hown : w.ownsRow base e 2 (.slice (some ⟨g, 0, none⟩) k cap) k xs) (u v : Value)
    (hx : a.eval x = .slice (some ⟨w.heap.size, 0, none⟩) 1 1) (h1 : u.oneCell' = true) (h2 : v.oneCell' = true) (hk : k + 1 ≤ cap) (hbase : base ≤ w.heap.size)
    (h : ∀ w', w'.ownsRow base e 2 (.slice (some ⟨g, 0, none⟩) (k + 1) cap) (k + 1) (xs ++ [u, v]) → Below base w w' → wpList P ops Q rest (a.put o.dst (.slice (some ⟨g, 0, none⟩) (k + 1) cap)) w') :
    wpList P ops Q (o :: rest) a (w.alloc (.cells #[u, v] e)) := by
  refine wpList_append_fits _ hgd s x t ho base e i 2 ht hi hsize g k cap xs hs (hown.alloc _) ⟨w.heap.size, 0, none⟩ 1 1 [u, v] hx rfl ?_ ?_ hk ?_
  · intro j z hj
    match j, hj with
    | 0, hj => simp at hj; subst hj; simp [Addr.add]
    | 1, hj => simp at hj; subst hj; simp [Addr.add]
  · intro z hz; simp at hz; rcases hz with rfl | rfl <;> assumption
  · intro w' hown' hg
    exact h w' hown' (Below.grown ((Below.refl base w).alloc hbase _) hg (by simp; omega) (fun k hk => by obtain rfl := Option.some.inj hk; exact (hown.lt g rfl).1))

theorem mul_room {n m N j i : Nat} (hN : n * m = N) (hj : j < m) (hi : i < n) : j * n + i + 1 ≤ N := by
  have h := Nat.mul_le_mul_left n (show j + 1 ≤ m from hj)
  rw [Nat.mul_add, Nat.mul_one, Nat.mul_comm n j] at h
  omega

set_option maxRecDepth 100000 in
set_option maxHeartbeats 2000000 in
theorem points_any (x y : Int) (n m N : Nat) (w : World) (h : Ok x y n m) (hN : n * m = N) (h5 : N ≤ 5000) :
    Calls Tryz.prog 143 #[.agg #[.int .i64 x, .int .i64 y, .int .i64 (n : Int), .int .i64 (m : Int)]] w fun e w' => ∃ g, e = .returned (.slice (some ⟨g, 0, none⟩) N N) ∧ PReads w' w'.heap.size g N (ptF x y n) ∧ Below w.heap.size w w' := by
  obtain ⟨i0, hi, hz0, hz1, hz2⟩ := info_parts Tryz.info_point
  have R := Lib.hid (fun w => right_yes x y n m w h)
  obtain ⟨⟨a1, a2, a3, a4⟩, b1, b2, b3, b4⟩ := h
  have hn1 : 1 ≤ n := by omega
  have hm1 : 1 ≤ m := by omega
  have hN1 : 1 ≤ N := by rw [← hN]; exact Nat.mul_le_mul hn1 hm1
  have h7 : (n : Int) * (m : Int) ≤ 5000 := by
    have : ((n * m : Nat) : Int) ≤ 5000 := by rw [hN]; omega
    simpa using this
  have h8 : (n : Int) ≤ 5000 / (m : Int) := Int.le_ediv_of_mul_le (by omega) h7
  have h9 : (5000 : Int) / (m : Int) ≤ 5000 := Int.ediv_le_self _ (by decide)
  have hdw : IntKind.i64.wrap (Int.tdiv 5000 (m : Int)) = 5000 / (m : Int) := by rw [Int.tdiv_eq_ediv_of_nonneg (by decide)]; exact IntWalk.i64_in _ (by omega)
  obtain ⟨d, hd⟩ : ∃ d, d = 5000 / (m : Int) := ⟨_, rfl⟩
  rw [← hd] at h8 h9 hdw
  clear hd h7
  have hm0 : ¬ m = 0 := by omega
  have hmN : (n : Int) * (m : Int) = (N : Int) := by rw [← hN]; simp
  have K0 := Blk.new w 66 #[.int .i64 x, .int .i64 y, .int .i64 (n : Int), .int .i64 (m : Int)]
  have B0 : Below w.heap.size w (w.alloc (.cells #[.int .i64 x, .int .i64 y, .int .i64 (n : Int), .int .i64 (m : Int)] 66)) := (Below.refl w.heap.size w).alloc (Nat.le_refl _) _
  have S0 : w.heap.size + 1 ≤ (w.alloc (.cells #[.int .i64 x, .int .i64 y, .int .i64 (n : Int), .int .i64 (m : Int)] 66)).heap.size := by simp
  go_enter Tryz.func143, Tryz.ntmps143
  go_wp2_with fail
  generalize w.alloc (.cells #[.int .i64 x, .int .i64 y, .int .i64 (n : Int), .int .i64 (m : Int)] 66) = w0 at K0 B0 S0 ⊢
  have C0 := fun p : LowW (w.heap.size + 1) w0 => (K0.below p.below (Nat.lt_succ_self _)).four
  have c0 := fun p => (C0 p).1
  have c1 := fun p => (C0 p).2.1
  have c2 := fun p => (C0 p).2.2.1
  have c3 := fun p => (C0 p).2.2.2.1
  have KK := Lib.hid K0
  have BB := Lib.hid B0
  have SS := Lib.hid S0
  clear C0 K0 B0 S0
  refine wp_region_low (w.heap.size + 1) w0 (by kernel_rfl) (by kernel_rfl) (Below.refl _ _) ?_
  repeat (quiet_step (first | (go_at_call 53; exact LowW.of_call _ SS.out (R.out _))))
  refine wpQuiet_nil ?_
  rintro w' ⟨p, rfl⟩
  obtain ⟨k0, k1, k2, k3, k4⟩ := (KK.out.below p.below (Nat.lt_succ_self _)).four
  have PB := Lib.hid p.below
  have hsz : w.heap.size + 1 ≤ p.w.heap.size := by have := p.below.size; have := SS.out; omega
  have HN := Lib.hid hN
  clear c0 c1 c2 c3 h9 hdw hN
  generalize p.w = w1 at k0 k1 k2 k3 k4 PB hsz ⊢
  go_wp2_with (at_make; refine wpList_make_own _ rfl _ _ 22 rfl (w.heap.size + 1) 35 i0 (.agg #[.int .i64 0, .int .i64 0]) 2 Tryz.underlying22 hi hz0 hz1 .i64 .i64 _ N rfl rfl (by omega) (by rw [hz2]; omega) (by unfold maxLen; omega) hsz ?_; intro w2 hown2 hgrow2; have PB2 := Lib.hid (PB.out.grown hgrow2 hsz (fun k hk => by cases hk)); obtain ⟨l0, l1, l2, l3, l4⟩ := (KK.out.below PB2.out (Nat.lt_succ_self _)).four)
  clear k0 k1 k2 k3 k4
  generalize w1.heap.size = g at hown2 ⊢
  have hP2 := PB2.out
  clear hgrow2 PB PB2 h8 hsz
  go_loopw [3, 25] (fun lv jv wr => ∃ j q : Nat, q = j * n ∧ j ≤ m ∧ jv = .int .i64 (j : Int) ∧ lv = .slice (some ⟨g, 0, none⟩) q N ∧ wr.ownsRow (w.heap.size + 1) 35 2 (.slice (some ⟨g, 0, none⟩) q N) q (cells2 (ptF x y n) q) ∧ Below (w.heap.size + 1) w0 wr) (fun _ jv _ => m - (intOf jv).toNat)
  case atStart => exact ⟨0, 0, by simp, Nat.zero_le _, rfl, rfl, hown2, hP2⟩
  case round =>
    obtain ⟨j, q, hq, hj, rfl, rfl, hown, hbel⟩ := hrel
    obtain ⟨k0, k1, k2, k3, k4⟩ := (KK.out.below hbel (Nat.lt_succ_self _)).four
    by_cases hjm : j < m
    · have HQ := Lib.hid hq
      have HO := Lib.hid hown
      have HB := Lib.hid hbel
      clear hq hown hbel hown2 hP2 l0 l1 l2 l3 l4
      obtain ⟨wo, rfl⟩ : ∃ wo, wo = wr := ⟨_, rfl⟩
      go_wp2
      clear k0 k1 k2 k3 k4
      go_loopw [3, 30] (fun lv iv wr => ∃ i r : Nat, r = q + i ∧ i ≤ n ∧ iv = .int .i64 (i : Int) ∧ lv = .slice (some ⟨g, 0, none⟩) r N ∧ wr.ownsRow (w.heap.size + 1) 35 2 (.slice (some ⟨g, 0, none⟩) r N) r (cells2 (ptF x y n) r) ∧ Below (w.heap.size + 1) w0 wr) (fun _ iv _ => n - (intOf iv).toNat)
      case atStart => exact ⟨0, q, rfl, Nat.zero_le _, rfl, rfl, HO.out, HB.out⟩
      case round =>
        obtain ⟨i, r, hr, hin, rfl, rfl, hown, hbel⟩ := hrel
        by_cases hlt : i < n
        · obtain ⟨k0, k1, k2, k3, k4⟩ := (KK.out.below hbel (Nat.lt_succ_self _)).four
          have hrN : r + 1 ≤ N := by have h1 := mul_room HN.out hjm hlt; have h2 := HQ.out; omega
          have hpt : cells2 (ptF x y n) (r + 1) = cells2 (ptF x y n) r ++ [.int .i64 (x + (i : Int)), .int .i64 (y + (j : Int))] := by
            rw [cells2, hr, HQ.out, ptF_at x y n j i hlt]
          have hsz : w.heap.size + 1 ≤ wr.heap.size := by have := hbel.size; have := SS.out; omega
          have HPT := Lib.hid hpt
          have HR := Lib.hid hr
          have HBE := Lib.hid hbel
          clear hpt hr hbel
          go_wp2_with (at_builtin; refine wpList_fit2 rfl _ _ 22 rfl (w.heap.size + 1) 35 i0 Tryz.underlying22 hi hz1 g r N _ rfl hown (.int .i64 (x + (i : Int))) (.int .i64 (y + (j : Int))) rfl rfl rfl (by omega) (by omega) ?_; intro w3 hown3 hbel3)
          go_roundw
          case rel => exact ⟨i + 1, r + 1, by have := HR.out; omega, by omega, by go_num, rfl, by rw [HPT.out]; exact hown3, HBE.out.trans hbel3⟩
          case measure => simp [intOf]; omega
        · obtain rfl : i = n := by omega
          have HR := Lib.hid hr
          clear hr
          go_wp2
          go_roundw
          case rel => exact ⟨j + 1, r, by rw [HR.out, HQ.out, Nat.add_mul, Nat.one_mul], by omega, by go_num, rfl, hown, hbel⟩
          case measure => simp [intOf]; omega
    · obtain rfl : j = m := by omega
      have HQ := Lib.hid hq
      have hqN : q = N := by rw [hq, Nat.mul_comm]; exact HN.out
      clear hq
      subst hqN
      clear hown2 hP2 l0 l1 l2 l3 l4
      go_wp2
      go_ret
      exact ⟨g, rfl, PReads.of_own hown hN1, BB.out.trans (hbel.mono (Nat.le_succ _))⟩
end Go.Proofs.YtbcihgimflljoaaGreatDoor
