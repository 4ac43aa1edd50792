/- The walk of Text on valid rules of at least three states. -/
import Derived.Test.YtbdgfegafckkbaaGreatDoorGex
import Derived.Test.YtbdgfegafckkbaaGreatDoorNext
namespace Go.Proofs.YtbdgfegafckkbaaGreatDoor
open Go.RowKit

/-- the notation of the plain rule without its letter, and the notation -/
def tb (b l : List Int) : List UInt8 := [66] ++ dgs b ++ [47, 83] ++ dgs l
def gt (k : Nat) (b l : List Int) (s : Nat) : List UInt8 := tb b l ++ [47, 67] ++ dg s ++ lt k
theorem tt_tb (k : Nat) (b l : List Int) : tt k b l = tb b l ++ lt k := rfl
theorem tb_len (b l : List Int) : (tb b l).length = b.length + l.length + 3 := by
  simp [tb, dgs_len]; omega
theorem lt_len (k : Nat) : (lt k).length ≤ 1 := by
  unfold lt; split
  · decide
  · split <;> decide
theorem lt_vh (k : Nat) : ∀ x ∈ lt k, x = 86 ∨ x = 72 := by
  unfold lt; split
  · intro x hx; simp at hx; exact .inl hx
  · split
    · intro x hx; simp at hx; exact .inr hx
    · intro x hx; simp at hx
theorem dgs_in {l : List Int} (h : ∀ x ∈ l, 0 ≤ x ∧ x < 10) : ∀ y ∈ dgs l, y ≠ 86 ∧ y ≠ 72 := by
  intro y hy
  unfold dgs at hy
  rw [List.mem_flatMap] at hy
  obtain ⟨x, hx, hy⟩ := hy
  have hb := h x hx
  obtain ⟨n, hn⟩ : ∃ n, n = x.toNat := ⟨_, rfl⟩
  rw [← hn] at hy
  have hn10 : n < 10 := by omega
  simp only [dg, List.mem_singleton] at hy
  subst hy
  clear hn
  revert n
  decide
theorem tb_in {b l : List Int} (hb : ∀ x ∈ b, 0 ≤ x ∧ x < 10) (hl : ∀ x ∈ l, 0 ≤ x ∧ x < 10) : ∀ y ∈ tb b l, y ≠ 86 ∧ y ≠ 72 := by
  intro y hy
  simp only [tb, List.mem_append, List.mem_singleton, List.mem_cons, List.not_mem_nil, or_false] at hy
  rcases hy with ((rfl | h) | rfl | rfl) | h
  · decide
  · exact dgs_in hb y h
  · decide
  · decide
  · exact dgs_in hl y h
theorem rt_two {f : Nat → P2} {n : Nat} {s : Int} {b l : List Int} (h : rt f n s b l = true) : rt f n 2 b l = true := by
  simp only [rt, Bool.and_eq_true, decide_eq_true_eq] at h ⊢
  exact ⟨h.1, by omega, by omega, h.2.2.2⟩
section
variable (A : Option Addr) (n c : Nat) (f : Nat → P2) (s : Nat) (Ab : Option Addr) (nb cb : Nat) (b : List Int) (As : Option Addr) (ns cs : Nat) (l : List Int)
set_option maxRecDepth 100000 in
set_option maxHeartbeats 2000000 in
theorem gtext_any (w : World) (h : TR w A n f Ab nb b As ns l) (hn : n ≤ 1000) (hnb : nb ≤ 60) (hns : ns ≤ 60) (hs : 3 ≤ s) (hq : rt f n (s : Int) b l = true) :
    Calls Tryz.prog 10 #[.agg #[.slice A n c, .int .i64 (s : Int), .slice Ab nb cb, .slice As ns cs]] w fun e w' => e = .returned (.string (tx (gt (kd f n) b l s))) ∧ Below w.heap.size w w' := by
  obtain ⟨_, s8⟩ := rt_st hq
  obtain ⟨hk, ab, al⟩ := rt_parts hq
  have h9 : n ≤ 9 := by rcases kd_len hk with h | h | h <;> omega
  have hb : ∀ x ∈ b, 0 ≤ x ∧ x < 10 := fun x hx => by have := asc_bd ab x hx; omega
  have hl : ∀ x ∈ l, 0 ≤ x ∧ x < 10 := fun x hx => by have := asc_bd al x hx; omega
  have lb := reads_len h.2.1
  have ll := reads_len h.2.2
  have PL := Lib.hid (fun w' (hb : Below w.heap.size w w') => gplain_any A n c f (s : Int) Ab nb cb b As ns cs l w' (h.later hb) hn (by omega) (by omega) hq)
  have TX := Lib.hid (fun A1 c1 A2 c2 A3 c3 w' (h : TR w' A1 n f A2 nb b A3 ns l) => text_any A1 n c1 f A2 nb c2 b A3 ns c3 l w' h hn hnb hns (rt_two hq))
  have CU := fun w => cutLetter_any (tb b l) (lt (kd f n)) w (by have := lt_len (kd f n); rw [tb_len]; omega) (lt_vh _) (fun x hx => tb_in hb hl x (List.mem_of_getLast? hx))
  rw [← tt_tb] at CU
  have IT := Lib.hid (fun w => itoa_any s w (by omega))
  have HT : ((tx (tb b l) ++ (⟨#[47, 67]⟩ : ByteArray)) ++ tx (dg s)) ++ tx (lt (kd f n)) = tx (gt (kd f n) b l s) := by
    show ((tx (tb b l) ++ tx [47, 67]) ++ tx (dg s)) ++ tx (lt (kd f n)) = _
    rw [tx_add, tx_add, tx_add]; rfl
  have e0 : (tx (tb b l)).toList.isEmpty = false := by
    rw [Lib.toList_data]; rfl
  have z0 : (tx (tb b l)).size ≤ 200 := by rw [tx_size, tb_len]; omega
  have z1 : (tx (dg s)).size = 1 := by rw [tx_size]; rfl
  have z2 : (tx (lt (kd f n))).size ≤ 1 := by rw [tx_size]; exact lt_len _
  rw [← HT]
  have K := Lib.hid (Blk.new w 25 #[.slice A n c, .int .i64 (s : Int), .slice Ab nb cb, .slice As ns cs])
  have B0 := Lib.hid ((Below.refl w.heap.size w).alloc (Nat.le_refl _) (.cells #[.slice A n c, .int .i64 (s : Int), .slice Ab nb cb, .slice As ns cs] 25))
  have h3 : ¬ (s : Int) < 3 := by omega
  clear h hq ab al hb hl HT hk lb ll
  generalize tx (tt (kd f n) b l) = u0 at TX CU
  generalize tx (tb b l) = u1 at CU e0 z0 ⊢
  generalize tx (dg s) = u2 at IT z1 ⊢
  generalize tx (lt (kd f n)) = u3 at CU z2 ⊢
  have zz := Lib.hid CU
  (try clear CU)
  have CU := zz
  clear zz
  obtain ⟨v1, hv1⟩ : ∃ v1, v1 = u1 ++ (⟨#[47, 67]⟩ : ByteArray) := ⟨_, rfl⟩
  obtain ⟨v2, hv2⟩ : ∃ v2, v2 = v1 ++ u2 := ⟨_, rfl⟩
  obtain ⟨v3, hv3⟩ : ∃ v3, v3 = v2 ++ u3 := ⟨_, rfl⟩
  rw [← hv1, ← hv2, ← hv3]
  have y1 : v1.size ≤ 202 := by rw [hv1, ByteArray.size_append, show (⟨#[47, 67]⟩ : ByteArray).size = 2 from rfl]; omega
  have y2 : v2.size ≤ 203 := by rw [hv2, ByteArray.size_append]; omega
  have P1 : ∀ w : World, (Op.stringOp .add u1 (⟨#[47, 67]⟩ : ByteArray)).run Tryz.prog w = .ok (.string v1) w := fun w => by rw [hv1]; exact run_string_add_sum w _ _ (by rw [show (⟨#[47, 67]⟩ : ByteArray).size = 2 from rfl]; omega)
  have P2 : ∀ w : World, (Op.stringOp .add v1 u2).run Tryz.prog w = .ok (.string v2) w := fun w => by rw [hv2]; exact run_string_add_sum w _ _ (by omega)
  have P3 : ∀ w : World, (Op.stringOp .add v2 u3).run Tryz.prog w = .ok (.string v3) w := fun w => by rw [hv3]; exact run_string_add_sum w _ _ (by omega)
  clear hv1 hv2 hv3 y1 y2 z0 z1 z2
  go_enter Tryz.func10, Tryz.ntmps10
  go_wp2_with (first
    | (go_at_call 7; (with_reducible refine (PL.out _ B0.out).mono ?_); rintro e w1 ⟨A1, c1, A2, c2, A3, c3, rfl, ht, hb⟩; have B1 := Lib.hid (B0.out.trans (hb.mono B0.out.size)); have K1 := Lib.hid (K.out.below' hb); have T1 := Lib.hid ht; clear ht hb)
    | (go_at_call 9; (with_reducible refine (TX.out _ _ _ _ _ _ _ T1.out).mono ?_); rintro e w2 ⟨rfl, hb⟩; have B2 := Lib.hid (B1.out.trans (hb.mono B1.out.size)); have K2 := Lib.hid (K1.out.below' hb); clear hb)
    | (go_at_call 22; (with_reducible refine (CU.out _).mono ?_); rintro e w3 ⟨rfl, hb⟩; have B3 := Lib.hid (B2.out.trans (hb.mono B2.out.size)); obtain ⟨k0, k1, k2, k3, k4⟩ := (K2.out.below' hb).four; clear hb)
    | (go_at_call 23; (with_reducible refine (IT.out _).mono ?_); rintro e w4 ⟨rfl, rfl⟩))
  go_ret
  exact ⟨rfl, B3.out⟩
end
end Go.Proofs.YtbdgfegafckkbaaGreatDoor
