/- The walk of the law on valid rules of at least three states: the new states, up to the notations. -/
import Derived.Test.YtbdgfegafckkbaaGreatDoorLaw
import Derived.Laws.IdiomStrings
import Derived.Deep.RegionHeldLaw
namespace Go.Proofs.YtbdgfegafckkbaaGreatDoor
open Go.RowKit

theorem nx1_same (n : Nat) (l : List Int) (s : Nat) (k : Int) (h3 : 3 ≤ s) (h8 : s ≤ 8) : ((nx1 n l (s : Int) k == 1) == (nx1 n l 2 k == 1)) = true := by
  have e1 : (2 : Int) % (s : Int) = 2 := Int.emod_eq_of_lt (by omega) (by omega)
  have e2 : (2 : Int) % 2 = 0 := by decide
  unfold nx1
  rw [e1, e2]
  by_cases h : 0 ≤ k ∧ k < (n : Int)
  · rw [if_pos h, if_pos h]
    by_cases hk : k ∈ l
    · rw [if_pos hk, if_pos hk]; decide
    · rw [if_neg hk, if_neg hk]; decide
  · rw [if_neg h, if_neg h]; decide
theorem last_at (l0 : List UInt8) (z : UInt8) (h : l0.length < (tx (l0 ++ [z])).size) : (tx (l0 ++ [z]))[l0.length]'h = z := by
  show (l0 ++ [z]).toArray[l0.length]'(by simp) = z
  simp
theorem ext_first (l0 : List UInt8) (z : UInt8) : (tx (l0 ++ [z])).extract 0 l0.length = tx l0 := by
  apply ByteArray.ext
  simp [tx, ByteArray.data_extract]
theorem ext_last (l0 : List UInt8) (z : UInt8) : (tx (l0 ++ [z])).extract l0.length (l0.length + 1) = tx [z] := by
  apply ByteArray.ext
  simp [tx, ByteArray.data_extract]
theorem last_of (l : List UInt8) (h : l ≠ []) : ∃ l0 z, l = l0 ++ [z] := ⟨l.dropLast, l.getLast h, (List.dropLast_concat_getLast h).symm⟩
/-- a byte in a row of the call's own, as a text -/
theorem byte_text (w : World) (g : Nat) (c : Nat) (s : Nat) (h8 : s ≤ 8) (hc : w.cell? ⟨g, 0, none⟩ = some (.int .u8 (48 + (s : Int)))) : (convert 31 9 (.slice (some ⟨g, 0, none⟩) 1 c)).run Tryz.prog w = .ok (.string (tx (dg s))) w := by
  have h := run_convert_bytes_back (P := Tryz.prog) w 31 9 5 ⟨g, 0, none⟩ c (dg s) Tryz.underlying31 Tryz.underlying5 Tryz.underlying9 (fun j hj => by
    obtain rfl : j = 0 := by simp [dg] at hj; exact hj
    have e : ((dg s)[0]'hj).toNat = 48 + s := by
      simp [dg]; omega
    rw [e]
    simpa [Addr.add] using hc)
  exact h
section
variable (A : Option Addr) (n c : Nat) (f : Nat → P2) (s : Nat) (Ab : Option Addr) (nb cb : Nat) (b : List Int) (As : Option Addr) (ns cs : Nat) (l : List Int) (w : World)
set_option maxRecDepth 100000 in
set_option maxHeartbeats 4000000 in
theorem law_k0 (k : Int) (m : Int) (u : TypeId) (x : Value) (hv : Vr m u x w) (h : TR w A n f Ab nb b As ns l) (h1 : n ≤ 40) (h2 : nb ≤ 40) (h3 : ns ≤ 40) (hq : rt f n (s : Int) b l = true) (hs : 3 ≤ s) (hk : kd f n = 0) :
    Calls Tryz.prog 3 #[.agg #[.slice A n c, .int .i64 (s : Int), .slice Ab nb cb, .slice As ns cs], .int .i64 k] w fun e w' => e = .returned (.bool true) ∧ Below w.heap.size w w' := by
  obtain ⟨_, s8⟩ := rt_st hq
  have hs3 : ¬ (s : Int) < 3 := by omega
  have SH := Lib.hid (fun w => few_yes A n c (s : Int) Ab nb cb As ns cs w h1 h2 h3)
  have RR := fun w' (hb : Below w.heap.size w w') => rright_any A n c f (s : Int) Ab nb cb b As ns cs l w' (h.later hb) (by omega) (by omega) (by omega)
  rw [hq] at RR
  have zz := Lib.hid RR
  (try clear RR)
  have RR := zz
  clear zz
  have PL := Lib.hid (fun w' (hb : Below w.heap.size w w') => gplain_any A n c f (s : Int) Ab nb cb b As ns cs l w' (h.later hb) (by omega) (by omega) (by omega) hq)
  have NT0 := fun w' (hb : Below w.heap.size w w') => next0_any A n c f (s : Int) Ab nb cb b As ns cs l k w' (h.later hb) (by omega) (by omega) (by omega) hq
  have NT1 := fun w' (hb : Below w.heap.size w w') => next1_any A n c f (s : Int) Ab nb cb b As ns cs l k w' (h.later hb) (by omega) (by omega) (by omega) hq
  have NP0 := fun A1 c1 A2 c2 A3 c3 w' (h' : TR w' A1 n f A2 nb b A3 ns l) => next0_any A1 n c1 f 2 A2 nb c2 b A3 ns c3 l k w' h' (by omega) (by omega) (by omega) (rt_two hq)
  have NP1 := fun A1 c1 A2 c2 A3 c3 w' (h' : TR w' A1 n f A2 nb b A3 ns l) => next1_any A1 n c1 f 2 A2 nb c2 b A3 ns c3 l k w' h' (by omega) (by omega) (by omega) (rt_two hq)
  have q1 := nx1_same n l s k hs (by omega)
  have BT := fun w g c hc => byte_text w g c s (by omega) hc
  have TX := fun A1 c1 A2 c2 A3 c3 w' (h' : TR w' A1 n f A2 nb b A3 ns l) => text_any A1 n c1 f A2 nb c2 b A3 ns c3 l w' h' (by omega) (by omega) (by omega) (rt_two hq)
  have GT := fun w' (hb : Below w.heap.size w w') => gtext_any A n c f s Ab nb cb b As ns cs l w' (h.later hb) (by omega) (by omega) (by omega) hs hq
  obtain ⟨hk', ab, al⟩ := rt_parts hq
  have h9 : n ≤ 9 := by rcases kd_len hk' with h | h | h <;> omega
  have hib : ∀ x ∈ b, 0 ≤ x ∧ x < 10 := fun x hx => by have := asc_bd ab x hx; omega
  have hil : ∀ x ∈ l, 0 ≤ x ∧ x < 10 := fun x hx => by have := asc_bd al x hx; omega
  have htb := tb_in hib hil
  have ltb := tb_len b l
  have lb := reads_len h.2.1
  have ll := reads_len h.2.2
  rw [hk] at TX GT
  unfold gt at GT
  rw [tt_tb] at TX
  rw [show lt 0 = [] from rfl] at TX GT
  obtain ⟨l0, z, hl0⟩ := last_of (tb b l) (fun e => by rw [e] at ltb; simp at ltb)
  obtain ⟨hz1, hz2⟩ := htb z (by rw [hl0]; simp)
  have lt0 : l0.length + 1 = (tb b l).length := by rw [hl0]; simp
  rw [List.append_nil] at TX
  generalize tb b l = t1 at TX GT ltb lt0 hl0
  subst hl0
  have z1 : ((z.toNat : Int) == 86) = false := by
    rw [beq_eq_false_iff_ne]
    exact fun e => hz1 (by apply UInt8.toNat_inj.1; have : z.toNat = 86 := by omega
                           rw [this]; rfl)
  have z2 : ((z.toNat : Int) == 72) = false := by
    rw [beq_eq_false_iff_ne]
    exact fun e => hz2 (by apply UInt8.toNat_inj.1; have : z.toNat = 72 := by omega
                           rw [this]; rfl)
  have hR : tx (l0 ++ [z]) ++ (⟨#[47, 67]⟩ : ByteArray) ++ tx (dg s) ++ (⟨#[]⟩ : ByteArray) = tx (l0 ++ [z] ++ [47, 67] ++ dg s ++ []) := by
    show ((tx (l0 ++ [z]) ++ tx [47, 67]) ++ tx (dg s)) ++ tx [] = _
    rw [tx_add, tx_add, tx_add]
  obtain ⟨N, hN⟩ : ∃ N, N = l0.length := ⟨_, rfl⟩
  have hN2 : N ≤ 200 := by omega
  have hsz : (tx (l0 ++ [z])).size = N + 1 := by rw [tx_size, hN]; simp
  have hzz : ∀ h : N < (tx (l0 ++ [z])).size, ((tx (l0 ++ [z]))[N]'h).toNat = z.toNat := by rw [hN]; exact fun h => congrArg UInt8.toNat (last_at l0 z h)
  have hx0 := ext_first l0 z
  have hx1 := ext_last l0 z
  rw [← hN] at hx0 hx1
  have sD : (tx (dg s)).size = 1 := by rw [tx_size]; rfl
  have sT : (tx l0).size = N := by rw [tx_size, hN]
  have sL : (tx [z]).size = 1 := by rw [tx_size]; rfl
  rw [← hR] at GT
  clear hR htb ltb hN
  clear hz1 hz2 lt0
  generalize z.toNat = zn at hzz z1 z2
  generalize tx (l0 ++ [z]) = u0 at TX GT hsz hzz hx0 hx1
  generalize tx (dg s) = uD at GT sD BT
  generalize tx l0 = uT at GT hx0 sT
  generalize tx [z] = uL at GT hx1 sL
  clear l0
  obtain ⟨v1, hv1⟩ : ∃ v1, v1 = u0 ++ (⟨#[47, 67]⟩ : ByteArray) := ⟨_, rfl⟩
  obtain ⟨v2, hv2⟩ : ∃ v2, v2 = v1 ++ uD := ⟨_, rfl⟩
  obtain ⟨v3, hv3⟩ : ∃ v3, v3 = v2 ++ (⟨#[]⟩ : ByteArray) := ⟨_, rfl⟩
  rw [← hv1, ← hv2, ← hv3] at GT
  have y1 : v1.size ≤ 203 := by rw [hv1, ByteArray.size_append, show (⟨#[47, 67]⟩ : ByteArray).size = 2 from rfl]; omega
  have y2 : v2.size ≤ 204 := by rw [hv2, ByteArray.size_append]; omega
  have P1 : ∀ w : World, (Op.stringOp .add u0 (⟨#[47, 67]⟩ : ByteArray)).run Tryz.prog w = .ok (.string v1) w := fun w => by rw [hv1]; exact run_string_add_sum w _ _ (by rw [show (⟨#[47, 67]⟩ : ByteArray).size = 2 from rfl]; omega)
  have P2 : ∀ w : World, (Op.stringOp .add v1 uD).run Tryz.prog w = .ok (.string v2) w := fun w => by rw [hv2]; exact run_string_add_sum w _ _ (by omega)
  have P3 : ∀ w : World, (Op.stringOp .add v2 (⟨#[]⟩ : ByteArray)).run Tryz.prog w = .ok (.string v3) w := fun w => by rw [hv3]; exact run_string_add_sum w _ _ (by rw [show (⟨#[]⟩ : ByteArray).size = 0 from rfl]; omega)
  clear hv1 hv2 hv3 y1 y2 sD sT sL
  have zz := Lib.hid TX
  (try clear TX)
  have TX := zz
  clear zz
  have zz := Lib.hid GT
  (try clear GT)
  have GT := zz
  clear zz
  have zz := Lib.hid BT
  (try clear BT)
  have BT := zz
  clear zz
  clear ab al hib hil hk hk' h9 lb ll
  generalize nx0 n b k = r0 at NT0 NP0
  generalize nx1 n l (s : Int) k = r1 at NT1 q1
  generalize nx1 n l 2 k = r2 at NP1 q1
  have AW := Lib.hid (fun w h => awake_any m u x w h)
  have HV := Lib.hid hv
  clear hv h hq
  have K := Blk.new w 25 #[.slice A n c, .int .i64 (s : Int), .slice Ab nb cb, .slice As ns cs]
  have B0 := (Below.refl w.heap.size w).alloc (Nat.le_refl _) (.cells #[.slice A n c, .int .i64 (s : Int), .slice Ab nb cb, .slice As ns cs] 25)
  have zz := Lib.hid NT0
  (try clear NT0)
  have NT0 := zz
  clear zz
  have zz := Lib.hid NT1
  (try clear NT1)
  have NT1 := zz
  clear zz
  have zz := Lib.hid NP0
  (try clear NP0)
  have NP0 := zz
  clear zz
  have zz := Lib.hid NP1
  (try clear NP1)
  have NP1 := zz
  clear zz
  go_enter Tryz.func3, Tryz.ntmps3
  go_upto_region 1 with (fail)
  generalize w.alloc (.cells #[.slice A n c, .int .i64 (s : Int), .slice Ab nb cb, .slice As ns cs] 25) = w0 at K B0 ⊢
  generalize w.heap.size = gt at K
  obtain ⟨k0, k1, k2, k3, k4⟩ := K.four
  have HK := Lib.hid K
  have HB0 := Lib.hid B0
  clear K B0
  go_upto_region 4 with (first
    | (go_at_call 7; (with_reducible refine (PL.out _ B2.out).mono ?_); rintro e w3 ⟨A1, c1, A2, c2, A3, c3, rfl, hr, hb⟩)
    | (go_at_call 5; (with_reducible refine (RR.out _ B1.out).mono ?_); rintro e w2 ⟨rfl, hb⟩; have B2 := Lib.hid (B1.out.trans (hb.mono B1.out.size)); have K2 := Lib.hid (K1.out.below' hb); obtain ⟨k0, k1, k2, k3, k4⟩ := (K1.out.below' hb).four; clear hb)
    | (go_at_call 4; (with_reducible refine (SH.out _).mono ?_); rintro e w1 ⟨rfl, hb⟩; have B1 := Lib.hid (HB0.out.trans (hb.mono HB0.out.size)); obtain ⟨k0, k1, k2, k3, k4⟩ := (HK.out.below' hb).four; have K1 := Lib.hid (HK.out.below' hb); clear hb))
  have K4 := (K2.out.below' hb).alloc (.cells #[.slice A1 n c1, .int .i64 2, .slice A2 nb c2, .slice A3 ns c3] 25)
  have P4 := Blk.new w3 25 #[.slice A1 n c1, .int .i64 2, .slice A2 nb c2, .slice A3 ns c3]
  have B3 := B2.out.trans (hb.mono B2.out.size)
  have B4 := B3.alloc B3.size (.cells #[.slice A1 n c1, .int .i64 2, .slice A2 nb c2, .slice A3 ns c3] 25)
  have T4 := hr.later ((Below.refl w3.heap.size w3).alloc (Nat.le_refl _) (.cells #[.slice A1 n c1, .int .i64 2, .slice A2 nb c2, .slice A3 ns c3] 25))
  clear hr hb B3 k0 k1 k2 k3 k4 SH RR PL HK HB0 K1 B1 K2 B2
  generalize w3.alloc (.cells #[.slice A1 n c1, .int .i64 2, .slice A2 nb c2, .slice A3 ns c3] 25) = W4 at K4 P4 B4 T4 ⊢
  generalize w3.heap.size = gp at P4 ⊢
  have HK4 := Lib.hid K4
  have HP4 := Lib.hid P4
  have HB4 := Lib.hid B4
  have HT4 := Lib.hid T4
  clear K4 P4 B4 T4
  go_wp2_with fail
  refine wp_loop_rounds 3 ?_
  rw [rounds_succ]
  go_upto_region 7 with (fail)
  have a0 := fun p : LowW W4.heap.size W4 => (HK4.out.below p.below HK4.out.lt).four.1
  have a1 := fun p : LowW W4.heap.size W4 => (HK4.out.below p.below HK4.out.lt).four.2.1
  have a2 := fun p : LowW W4.heap.size W4 => (HK4.out.below p.below HK4.out.lt).four.2.2.1
  have a3 := fun p : LowW W4.heap.size W4 => (HK4.out.below p.below HK4.out.lt).four.2.2.2.1
  have a4 := fun p : LowW W4.heap.size W4 => (HP4.out.below p.below HP4.out.lt).four.1
  have a5 := fun p : LowW W4.heap.size W4 => (HP4.out.below p.below HP4.out.lt).four.2.1
  have a6 := fun p : LowW W4.heap.size W4 => (HP4.out.below p.below HP4.out.lt).four.2.2.1
  have a7 := fun p : LowW W4.heap.size W4 => (HP4.out.below p.below HP4.out.lt).four.2.2.2.1
  have D0 := Lib.hid (fun p : LowW W4.heap.size W4 => NT0.out p.w (HB4.out.trans (p.below.mono HB4.out.size)))
  have D1 := Lib.hid (fun p : LowW W4.heap.size W4 => NP0.out A1 c1 A2 c2 A3 c3 p.w (HT4.out.later p.below))
  refine wp_region_low W4.heap.size W4 (by kernel_rfl) (by kernel_rfl) (Below.refl _ _) ?_
  repeat (quiet_step (first | (go_at_call 8; with_reducible exact LowW.of_call _ (Nat.le_refl _) (D0.out _)) | (go_at_call 8; with_reducible exact LowW.of_call _ (Nat.le_refl _) (D1.out _))))
  refine wpQuiet_nil ?_
  rintro w' ⟨p, rfl⟩
  have HK5 := Lib.hid (HK4.out.below' p.below)
  have HP5 := Lib.hid (HP4.out.below' p.below)
  have HB5 := Lib.hid (HB4.out.trans (p.below.mono HB4.out.size))
  have HT5 := Lib.hid (HT4.out.later p.below)
  clear a0 a1 a2 a3 a4 a5 a6 a7 D0 D1
  generalize p.w = W5 at HK5 HP5 HB5 HT5 ⊢
  clear p HK4 HP4 HB4 HT4
  go_wp2_with fail
  rw [rounds_succ]
  go_upto_region 7 with (fail)
  have a0 := fun p : LowW W5.heap.size W5 => (HK5.out.below p.below HK5.out.lt).four.1
  have a1 := fun p : LowW W5.heap.size W5 => (HK5.out.below p.below HK5.out.lt).four.2.1
  have a2 := fun p : LowW W5.heap.size W5 => (HK5.out.below p.below HK5.out.lt).four.2.2.1
  have a3 := fun p : LowW W5.heap.size W5 => (HK5.out.below p.below HK5.out.lt).four.2.2.2.1
  have a4 := fun p : LowW W5.heap.size W5 => (HP5.out.below p.below HP5.out.lt).four.1
  have a5 := fun p : LowW W5.heap.size W5 => (HP5.out.below p.below HP5.out.lt).four.2.1
  have a6 := fun p : LowW W5.heap.size W5 => (HP5.out.below p.below HP5.out.lt).four.2.2.1
  have a7 := fun p : LowW W5.heap.size W5 => (HP5.out.below p.below HP5.out.lt).four.2.2.2.1
  have D0 := Lib.hid (fun p : LowW W5.heap.size W5 => NT1.out p.w (HB5.out.trans (p.below.mono HB5.out.size)))
  have D1 := Lib.hid (fun p : LowW W5.heap.size W5 => NP1.out A1 c1 A2 c2 A3 c3 p.w (HT5.out.later p.below))
  refine wp_region_low W5.heap.size W5 (by kernel_rfl) (by kernel_rfl) (Below.refl _ _) ?_
  repeat (quiet_step (first | (go_at_call 8; with_reducible exact LowW.of_call _ (Nat.le_refl _) (D0.out _)) | (go_at_call 8; with_reducible exact LowW.of_call _ (Nat.le_refl _) (D1.out _))))
  refine wpQuiet_nil ?_
  rintro w' ⟨p, rfl⟩
  have HK6 := Lib.hid (HK5.out.below' p.below)
  have HP6 := Lib.hid (HP5.out.below' p.below)
  have HB6 := Lib.hid (HB5.out.trans (p.below.mono HB5.out.size))
  have HT6 := Lib.hid (HT5.out.later p.below)
  clear a0 a1 a2 a3 a4 a5 a6 a7 D0 D1
  generalize p.w = W6 at HK6 HP6 HB6 HT6 ⊢
  clear p HK5 HP5 HB5 HT5
  go_wp2_with fail
  rw [rounds_succ]
  go_upto_region 9 with (fail)
  clear NT0 NT1 NP0 NP1 q1
  obtain ⟨a4, a5, a6, a7, a8⟩ := HP6.out.four
  go_upto_region 11 with (go_at_call 9; (with_reducible refine (TX.out A1 c1 A2 c2 A3 c3 _ HT6.out).mono ?_); rintro e w7 ⟨rfl, hb⟩)
  have HK7 := Lib.hid (HK6.out.below' hb)
  have HB7 := Lib.hid (HB6.out.trans (hb.mono HB6.out.size))
  clear hb a4 a5 a6 a7 a8 HK6 HP6 HB6 HT6 TX
  go_upto_region 13 with (fail)
  have HK8 := Lib.hid (HK7.out)
  have HB8 := Lib.hid (HB7.out)
  clear HK7 HB7 hzz z1 z2 hx0 hx1 hsz hN2
  generalize w7 = W8 at HK8 HB8 ⊢
  have GT8 := Lib.hid (show ∀ w', Below W8.heap.size W8 w' → Calls Tryz.prog 10 #[.agg #[.slice A n c, .int .i64 (s : Int), .slice Ab nb cb, .slice As ns cs]] w' fun e w'' => e = .returned (.string v3) ∧ Below W8.heap.size W8 w'' ∧ Below w'.heap.size w' w'' from
    fun w' hb => (GT.out w' (HB8.out.trans (hb.mono HB8.out.size))).mono fun e w'' ⟨he, hx⟩ => ⟨he, hb.trans (hx.mono hb.size), hx⟩)
  have AW8 := Lib.hid (show ∀ w', Below W8.heap.size W8 w' → Calls Tryz.prog 6 #[] w' fun e w'' => e = .returned (.bool true) ∧ Below W8.heap.size W8 w'' ∧ Below w'.heap.size w' w'' from
    fun w' hb => (AW.out w' (HV.out.later (HB8.out.trans (hb.mono HB8.out.size)))).mono fun e w'' ⟨he, hx⟩ => ⟨he, hb.trans (hx.mono hb.size), hx⟩)
  have KP := Lib.hid (show ∀ w', Below W8.heap.size W8 w' → w'.cell? ⟨gt, 0, none⟩ = some (.slice A n c) ∧ w'.cell? ⟨gt, 1, none⟩ = some (.int .i64 (s : Int)) ∧ w'.cell? ⟨gt, 2, none⟩ = some (.slice Ab nb cb) ∧ w'.cell? ⟨gt, 3, none⟩ = some (.slice As ns cs) from
    fun w' hb => ⟨(HK8.out.below' hb).four.1, (HK8.out.below' hb).four.2.1, (HK8.out.below' hb).four.2.2.1, (HK8.out.below' hb).four.2.2.2.1⟩)
  have BT := BT.out
  obtain ⟨k0, k1, k2, k3, k4⟩ := HK8.out.four
  have wu : IntKind.u8.wrap (48 + (s : Int)) = 48 + (s : Int) := IntWalk.u8_in _ (by omega)
  have wi : IntKind.i64.wrap (48 + (s : Int)) = 48 + (s : Int) := IntWalk.i64_in _ (by omega)
  clear GT AW
  go_region_held_law (fun w' => w'.cell? ⟨gt, 0, none⟩ = some (.slice A n c) ∧ w'.cell? ⟨gt, 1, none⟩ = some (.int .i64 (s : Int)) ∧ w'.cell? ⟨gt, 2, none⟩ = some (.slice Ab nb cb) ∧ w'.cell? ⟨gt, 3, none⟩ = some (.slice As ns cs))
    (first | (refine KP.out _ ?_; (with_reducible (repeat (first | assumption | exact Below.refl _ _ | refine Below.drew' ?_ | refine Below.alloc' ?_ _))); done) | go_keep)
    (first | (go_at_call 10; (with_reducible refine (GT8.out _ ?_).mono ?_); (with_reducible (repeat (first | assumption | exact Below.refl _ _ | refine Below.drew' ?_ | refine Below.alloc' ?_ _))); rintro e wa ⟨rfl, ha1, ha2⟩; (try (have hk := Blk.below' (by first | exact (Blk.new _ 5 #[.int .u8 (48 + (s : Int))]) | exact (Blk.new _ 5 #[.int .u8 (48 + (s : Int))]).drew | exact (Blk.new _ 5 #[.int .u8 (48 + (s : Int))]).drew.drew) ha2; have kc : wa.cell? ⟨_, 0, none⟩ = some (.int .u8 (48 + (s : Int))) := (hk.cell 0).trans rfl; clear hk; (try simp at kc)))) | (go_at_call 6; (with_reducible refine (AW8.out _ ?_).mono ?_); (with_reducible (repeat (first | assumption | exact Below.refl _ _ | refine Below.drew' ?_ | refine Below.alloc' ?_ _))); rintro e wz ⟨rfl, hz1, hz2⟩))
  all_goals
    go_wp2_with fail
    go_ret
    exact ⟨rfl, HB8.out.trans (hz1.mono HB8.out.size)⟩
set_option maxRecDepth 100000 in
set_option maxHeartbeats 4000000 in
theorem law_k1 (k : Int) (m : Int) (u : TypeId) (x : Value) (hv : Vr m u x w) (h : TR w A n f Ab nb b As ns l) (h1 : n ≤ 40) (h2 : nb ≤ 40) (h3 : ns ≤ 40) (hq : rt f n (s : Int) b l = true) (hs : 3 ≤ s) (hk : kd f n = 1) :
    Calls Tryz.prog 3 #[.agg #[.slice A n c, .int .i64 (s : Int), .slice Ab nb cb, .slice As ns cs], .int .i64 k] w fun e w' => e = .returned (.bool true) ∧ Below w.heap.size w w' := by
  obtain ⟨_, s8⟩ := rt_st hq
  have hs3 : ¬ (s : Int) < 3 := by omega
  have SH := Lib.hid (fun w => few_yes A n c (s : Int) Ab nb cb As ns cs w h1 h2 h3)
  have RR := fun w' (hb : Below w.heap.size w w') => rright_any A n c f (s : Int) Ab nb cb b As ns cs l w' (h.later hb) (by omega) (by omega) (by omega)
  rw [hq] at RR
  have zz := Lib.hid RR
  (try clear RR)
  have RR := zz
  clear zz
  have PL := Lib.hid (fun w' (hb : Below w.heap.size w w') => gplain_any A n c f (s : Int) Ab nb cb b As ns cs l w' (h.later hb) (by omega) (by omega) (by omega) hq)
  have NT0 := fun w' (hb : Below w.heap.size w w') => next0_any A n c f (s : Int) Ab nb cb b As ns cs l k w' (h.later hb) (by omega) (by omega) (by omega) hq
  have NT1 := fun w' (hb : Below w.heap.size w w') => next1_any A n c f (s : Int) Ab nb cb b As ns cs l k w' (h.later hb) (by omega) (by omega) (by omega) hq
  have NP0 := fun A1 c1 A2 c2 A3 c3 w' (h' : TR w' A1 n f A2 nb b A3 ns l) => next0_any A1 n c1 f 2 A2 nb c2 b A3 ns c3 l k w' h' (by omega) (by omega) (by omega) (rt_two hq)
  have NP1 := fun A1 c1 A2 c2 A3 c3 w' (h' : TR w' A1 n f A2 nb b A3 ns l) => next1_any A1 n c1 f 2 A2 nb c2 b A3 ns c3 l k w' h' (by omega) (by omega) (by omega) (rt_two hq)
  have q1 := nx1_same n l s k hs (by omega)
  have BT := fun w g c hc => byte_text w g c s (by omega) hc
  have TX := fun A1 c1 A2 c2 A3 c3 w' (h' : TR w' A1 n f A2 nb b A3 ns l) => text_any A1 n c1 f A2 nb c2 b A3 ns c3 l w' h' (by omega) (by omega) (by omega) (rt_two hq)
  have GT := fun w' (hb : Below w.heap.size w w') => gtext_any A n c f s Ab nb cb b As ns cs l w' (h.later hb) (by omega) (by omega) (by omega) hs hq
  obtain ⟨hk', ab, al⟩ := rt_parts hq
  have h9 : n ≤ 9 := by rcases kd_len hk' with h | h | h <;> omega
  have hib : ∀ x ∈ b, 0 ≤ x ∧ x < 10 := fun x hx => by have := asc_bd ab x hx; omega
  have hil : ∀ x ∈ l, 0 ≤ x ∧ x < 10 := fun x hx => by have := asc_bd al x hx; omega
  have htb := tb_in hib hil
  have ltb := tb_len b l
  have lb := reads_len h.2.1
  have ll := reads_len h.2.2
  rw [hk] at TX GT
  unfold gt at GT
  rw [tt_tb] at TX
  rw [show lt 1 = [86] from rfl] at TX GT
  obtain ⟨l0, hl0⟩ : ∃ l0, l0 = tb b l := ⟨_, rfl⟩
  rw [← hl0] at TX GT ltb
  obtain ⟨z, hz⟩ : ∃ z : UInt8, z = 86 := ⟨_, rfl⟩
  rw [← hz] at TX GT
  have lt0 : l0.length ≤ 200 := by omega
  have z1 : (z.toNat : Int) = 86 := by rw [hz]; rfl
  have hR : tx l0 ++ (⟨#[47, 67]⟩ : ByteArray) ++ tx (dg s) ++ tx [z] = tx (l0 ++ [47, 67] ++ dg s ++ [z]) := by
    show ((tx l0 ++ tx [47, 67]) ++ tx (dg s)) ++ tx [z] = _
    rw [tx_add, tx_add, tx_add]
  obtain ⟨N, hN⟩ : ∃ N, N = l0.length := ⟨_, rfl⟩
  have hN2 : N ≤ 200 := by omega
  have hsz : (tx (l0 ++ [z])).size = N + 1 := by rw [tx_size, hN]; simp
  have hzz : ∀ h : N < (tx (l0 ++ [z])).size, ((tx (l0 ++ [z]))[N]'h).toNat = z.toNat := by rw [hN]; exact fun h => congrArg UInt8.toNat (last_at l0 z h)
  have hx0 := ext_first l0 z
  have hx1 := ext_last l0 z
  rw [← hN] at hx0 hx1
  have sD : (tx (dg s)).size = 1 := by rw [tx_size]; rfl
  have sT : (tx l0).size = N := by rw [tx_size, hN]
  have sL : (tx [z]).size = 1 := by rw [tx_size]; rfl
  rw [← hR] at GT
  clear hR htb ltb hN
  clear hl0 hz lt0
  generalize z.toNat = zn at hzz z1
  generalize tx (l0 ++ [z]) = u0 at TX GT hsz hzz hx0 hx1
  generalize tx (dg s) = uD at GT sD BT
  generalize tx l0 = uT at GT hx0 sT
  generalize tx [z] = uL at GT hx1 sL
  clear l0
  obtain ⟨v1, hv1⟩ : ∃ v1, v1 = uT ++ (⟨#[47, 67]⟩ : ByteArray) := ⟨_, rfl⟩
  obtain ⟨v2, hv2⟩ : ∃ v2, v2 = v1 ++ uD := ⟨_, rfl⟩
  obtain ⟨v3, hv3⟩ : ∃ v3, v3 = v2 ++ uL := ⟨_, rfl⟩
  rw [← hv1, ← hv2, ← hv3] at GT
  have y1 : v1.size ≤ 203 := by rw [hv1, ByteArray.size_append, show (⟨#[47, 67]⟩ : ByteArray).size = 2 from rfl]; omega
  have y2 : v2.size ≤ 204 := by rw [hv2, ByteArray.size_append]; omega
  have P1 : ∀ w : World, (Op.stringOp .add uT (⟨#[47, 67]⟩ : ByteArray)).run Tryz.prog w = .ok (.string v1) w := fun w => by rw [hv1]; exact run_string_add_sum w _ _ (by rw [show (⟨#[47, 67]⟩ : ByteArray).size = 2 from rfl]; omega)
  have P2 : ∀ w : World, (Op.stringOp .add v1 uD).run Tryz.prog w = .ok (.string v2) w := fun w => by rw [hv2]; exact run_string_add_sum w _ _ (by omega)
  have P3 : ∀ w : World, (Op.stringOp .add v2 uL).run Tryz.prog w = .ok (.string v3) w := fun w => by rw [hv3]; exact run_string_add_sum w _ _ (by omega)
  clear hv1 hv2 hv3 y1 y2 sD sT sL
  have zz := Lib.hid TX
  (try clear TX)
  have TX := zz
  clear zz
  have zz := Lib.hid GT
  (try clear GT)
  have GT := zz
  clear zz
  have zz := Lib.hid BT
  (try clear BT)
  have BT := zz
  clear zz
  clear ab al hib hil hk hk' h9 lb ll
  generalize nx0 n b k = r0 at NT0 NP0
  generalize nx1 n l (s : Int) k = r1 at NT1 q1
  generalize nx1 n l 2 k = r2 at NP1 q1
  have AW := Lib.hid (fun w h => awake_any m u x w h)
  have HV := Lib.hid hv
  clear hv h hq
  have K := Blk.new w 25 #[.slice A n c, .int .i64 (s : Int), .slice Ab nb cb, .slice As ns cs]
  have B0 := (Below.refl w.heap.size w).alloc (Nat.le_refl _) (.cells #[.slice A n c, .int .i64 (s : Int), .slice Ab nb cb, .slice As ns cs] 25)
  have zz := Lib.hid NT0
  (try clear NT0)
  have NT0 := zz
  clear zz
  have zz := Lib.hid NT1
  (try clear NT1)
  have NT1 := zz
  clear zz
  have zz := Lib.hid NP0
  (try clear NP0)
  have NP0 := zz
  clear zz
  have zz := Lib.hid NP1
  (try clear NP1)
  have NP1 := zz
  clear zz
  go_enter Tryz.func3, Tryz.ntmps3
  go_upto_region 1 with (fail)
  generalize w.alloc (.cells #[.slice A n c, .int .i64 (s : Int), .slice Ab nb cb, .slice As ns cs] 25) = w0 at K B0 ⊢
  generalize w.heap.size = gt at K
  obtain ⟨k0, k1, k2, k3, k4⟩ := K.four
  have HK := Lib.hid K
  have HB0 := Lib.hid B0
  clear K B0
  go_upto_region 4 with (first
    | (go_at_call 7; (with_reducible refine (PL.out _ B2.out).mono ?_); rintro e w3 ⟨A1, c1, A2, c2, A3, c3, rfl, hr, hb⟩)
    | (go_at_call 5; (with_reducible refine (RR.out _ B1.out).mono ?_); rintro e w2 ⟨rfl, hb⟩; have B2 := Lib.hid (B1.out.trans (hb.mono B1.out.size)); have K2 := Lib.hid (K1.out.below' hb); obtain ⟨k0, k1, k2, k3, k4⟩ := (K1.out.below' hb).four; clear hb)
    | (go_at_call 4; (with_reducible refine (SH.out _).mono ?_); rintro e w1 ⟨rfl, hb⟩; have B1 := Lib.hid (HB0.out.trans (hb.mono HB0.out.size)); obtain ⟨k0, k1, k2, k3, k4⟩ := (HK.out.below' hb).four; have K1 := Lib.hid (HK.out.below' hb); clear hb))
  have K4 := (K2.out.below' hb).alloc (.cells #[.slice A1 n c1, .int .i64 2, .slice A2 nb c2, .slice A3 ns c3] 25)
  have P4 := Blk.new w3 25 #[.slice A1 n c1, .int .i64 2, .slice A2 nb c2, .slice A3 ns c3]
  have B3 := B2.out.trans (hb.mono B2.out.size)
  have B4 := B3.alloc B3.size (.cells #[.slice A1 n c1, .int .i64 2, .slice A2 nb c2, .slice A3 ns c3] 25)
  have T4 := hr.later ((Below.refl w3.heap.size w3).alloc (Nat.le_refl _) (.cells #[.slice A1 n c1, .int .i64 2, .slice A2 nb c2, .slice A3 ns c3] 25))
  clear hr hb B3 k0 k1 k2 k3 k4 SH RR PL HK HB0 K1 B1 K2 B2
  generalize w3.alloc (.cells #[.slice A1 n c1, .int .i64 2, .slice A2 nb c2, .slice A3 ns c3] 25) = W4 at K4 P4 B4 T4 ⊢
  generalize w3.heap.size = gp at P4 ⊢
  have HK4 := Lib.hid K4
  have HP4 := Lib.hid P4
  have HB4 := Lib.hid B4
  have HT4 := Lib.hid T4
  clear K4 P4 B4 T4
  go_wp2_with fail
  refine wp_loop_rounds 3 ?_
  rw [rounds_succ]
  go_upto_region 7 with (fail)
  have a0 := fun p : LowW W4.heap.size W4 => (HK4.out.below p.below HK4.out.lt).four.1
  have a1 := fun p : LowW W4.heap.size W4 => (HK4.out.below p.below HK4.out.lt).four.2.1
  have a2 := fun p : LowW W4.heap.size W4 => (HK4.out.below p.below HK4.out.lt).four.2.2.1
  have a3 := fun p : LowW W4.heap.size W4 => (HK4.out.below p.below HK4.out.lt).four.2.2.2.1
  have a4 := fun p : LowW W4.heap.size W4 => (HP4.out.below p.below HP4.out.lt).four.1
  have a5 := fun p : LowW W4.heap.size W4 => (HP4.out.below p.below HP4.out.lt).four.2.1
  have a6 := fun p : LowW W4.heap.size W4 => (HP4.out.below p.below HP4.out.lt).four.2.2.1
  have a7 := fun p : LowW W4.heap.size W4 => (HP4.out.below p.below HP4.out.lt).four.2.2.2.1
  have D0 := Lib.hid (fun p : LowW W4.heap.size W4 => NT0.out p.w (HB4.out.trans (p.below.mono HB4.out.size)))
  have D1 := Lib.hid (fun p : LowW W4.heap.size W4 => NP0.out A1 c1 A2 c2 A3 c3 p.w (HT4.out.later p.below))
  refine wp_region_low W4.heap.size W4 (by kernel_rfl) (by kernel_rfl) (Below.refl _ _) ?_
  repeat (quiet_step (first | (go_at_call 8; with_reducible exact LowW.of_call _ (Nat.le_refl _) (D0.out _)) | (go_at_call 8; with_reducible exact LowW.of_call _ (Nat.le_refl _) (D1.out _))))
  refine wpQuiet_nil ?_
  rintro w' ⟨p, rfl⟩
  have HK5 := Lib.hid (HK4.out.below' p.below)
  have HP5 := Lib.hid (HP4.out.below' p.below)
  have HB5 := Lib.hid (HB4.out.trans (p.below.mono HB4.out.size))
  have HT5 := Lib.hid (HT4.out.later p.below)
  clear a0 a1 a2 a3 a4 a5 a6 a7 D0 D1
  generalize p.w = W5 at HK5 HP5 HB5 HT5 ⊢
  clear p HK4 HP4 HB4 HT4
  go_wp2_with fail
  rw [rounds_succ]
  go_upto_region 7 with (fail)
  have a0 := fun p : LowW W5.heap.size W5 => (HK5.out.below p.below HK5.out.lt).four.1
  have a1 := fun p : LowW W5.heap.size W5 => (HK5.out.below p.below HK5.out.lt).four.2.1
  have a2 := fun p : LowW W5.heap.size W5 => (HK5.out.below p.below HK5.out.lt).four.2.2.1
  have a3 := fun p : LowW W5.heap.size W5 => (HK5.out.below p.below HK5.out.lt).four.2.2.2.1
  have a4 := fun p : LowW W5.heap.size W5 => (HP5.out.below p.below HP5.out.lt).four.1
  have a5 := fun p : LowW W5.heap.size W5 => (HP5.out.below p.below HP5.out.lt).four.2.1
  have a6 := fun p : LowW W5.heap.size W5 => (HP5.out.below p.below HP5.out.lt).four.2.2.1
  have a7 := fun p : LowW W5.heap.size W5 => (HP5.out.below p.below HP5.out.lt).four.2.2.2.1
  have D0 := Lib.hid (fun p : LowW W5.heap.size W5 => NT1.out p.w (HB5.out.trans (p.below.mono HB5.out.size)))
  have D1 := Lib.hid (fun p : LowW W5.heap.size W5 => NP1.out A1 c1 A2 c2 A3 c3 p.w (HT5.out.later p.below))
  refine wp_region_low W5.heap.size W5 (by kernel_rfl) (by kernel_rfl) (Below.refl _ _) ?_
  repeat (quiet_step (first | (go_at_call 8; with_reducible exact LowW.of_call _ (Nat.le_refl _) (D0.out _)) | (go_at_call 8; with_reducible exact LowW.of_call _ (Nat.le_refl _) (D1.out _))))
  refine wpQuiet_nil ?_
  rintro w' ⟨p, rfl⟩
  have HK6 := Lib.hid (HK5.out.below' p.below)
  have HP6 := Lib.hid (HP5.out.below' p.below)
  have HB6 := Lib.hid (HB5.out.trans (p.below.mono HB5.out.size))
  have HT6 := Lib.hid (HT5.out.later p.below)
  clear a0 a1 a2 a3 a4 a5 a6 a7 D0 D1
  generalize p.w = W6 at HK6 HP6 HB6 HT6 ⊢
  clear p HK5 HP5 HB5 HT5
  go_wp2_with fail
  rw [rounds_succ]
  go_upto_region 9 with (fail)
  clear NT0 NT1 NP0 NP1 q1
  obtain ⟨a4, a5, a6, a7, a8⟩ := HP6.out.four
  go_upto_region 11 with (go_at_call 9; (with_reducible refine (TX.out A1 c1 A2 c2 A3 c3 _ HT6.out).mono ?_); rintro e w7 ⟨rfl, hb⟩)
  have HK7 := Lib.hid (HK6.out.below' hb)
  have HB7 := Lib.hid (HB6.out.trans (hb.mono HB6.out.size))
  clear hb a4 a5 a6 a7 a8 HK6 HP6 HB6 HT6 TX
  go_upto_region 12 with (fail)
  go_region
  go_upto_region 13 with (fail)
  have HK8 := Lib.hid (HK7.out.drew)
  have HB8 := Lib.hid (HB7.out.drew)
  clear HK7 HB7 hzz z1 hx0 hx1 hsz hN2
  generalize w7.drew = W8 at HK8 HB8 ⊢
  have GT8 := Lib.hid (show ∀ w', Below W8.heap.size W8 w' → Calls Tryz.prog 10 #[.agg #[.slice A n c, .int .i64 (s : Int), .slice Ab nb cb, .slice As ns cs]] w' fun e w'' => e = .returned (.string v3) ∧ Below W8.heap.size W8 w'' ∧ Below w'.heap.size w' w'' from
    fun w' hb => (GT.out w' (HB8.out.trans (hb.mono HB8.out.size))).mono fun e w'' ⟨he, hx⟩ => ⟨he, hb.trans (hx.mono hb.size), hx⟩)
  have AW8 := Lib.hid (show ∀ w', Below W8.heap.size W8 w' → Calls Tryz.prog 6 #[] w' fun e w'' => e = .returned (.bool true) ∧ Below W8.heap.size W8 w'' ∧ Below w'.heap.size w' w'' from
    fun w' hb => (AW.out w' (HV.out.later (HB8.out.trans (hb.mono HB8.out.size)))).mono fun e w'' ⟨he, hx⟩ => ⟨he, hb.trans (hx.mono hb.size), hx⟩)
  have KP := Lib.hid (show ∀ w', Below W8.heap.size W8 w' → w'.cell? ⟨gt, 0, none⟩ = some (.slice A n c) ∧ w'.cell? ⟨gt, 1, none⟩ = some (.int .i64 (s : Int)) ∧ w'.cell? ⟨gt, 2, none⟩ = some (.slice Ab nb cb) ∧ w'.cell? ⟨gt, 3, none⟩ = some (.slice As ns cs) from
    fun w' hb => ⟨(HK8.out.below' hb).four.1, (HK8.out.below' hb).four.2.1, (HK8.out.below' hb).four.2.2.1, (HK8.out.below' hb).four.2.2.2.1⟩)
  have BT := BT.out
  obtain ⟨k0, k1, k2, k3, k4⟩ := HK8.out.four
  have wu : IntKind.u8.wrap (48 + (s : Int)) = 48 + (s : Int) := IntWalk.u8_in _ (by omega)
  have wi : IntKind.i64.wrap (48 + (s : Int)) = 48 + (s : Int) := IntWalk.i64_in _ (by omega)
  clear GT AW
  go_region_held_law (fun w' => w'.cell? ⟨gt, 0, none⟩ = some (.slice A n c) ∧ w'.cell? ⟨gt, 1, none⟩ = some (.int .i64 (s : Int)) ∧ w'.cell? ⟨gt, 2, none⟩ = some (.slice Ab nb cb) ∧ w'.cell? ⟨gt, 3, none⟩ = some (.slice As ns cs))
    (first | (refine KP.out _ ?_; (with_reducible (repeat (first | assumption | exact Below.refl _ _ | refine Below.drew' ?_ | refine Below.alloc' ?_ _))); done) | go_keep)
    (first | (go_at_call 10; (with_reducible refine (GT8.out _ ?_).mono ?_); (with_reducible (repeat (first | assumption | exact Below.refl _ _ | refine Below.drew' ?_ | refine Below.alloc' ?_ _))); rintro e wa ⟨rfl, ha1, ha2⟩; (try (have hk := Blk.below' (by first | exact (Blk.new _ 5 #[.int .u8 (48 + (s : Int))]) | exact (Blk.new _ 5 #[.int .u8 (48 + (s : Int))]).drew | exact (Blk.new _ 5 #[.int .u8 (48 + (s : Int))]).drew.drew) ha2; have kc : wa.cell? ⟨_, 0, none⟩ = some (.int .u8 (48 + (s : Int))) := (hk.cell 0).trans rfl; clear hk; (try simp at kc)))) | (go_at_call 6; (with_reducible refine (AW8.out _ ?_).mono ?_); (with_reducible (repeat (first | assumption | exact Below.refl _ _ | refine Below.drew' ?_ | refine Below.alloc' ?_ _))); rintro e wz ⟨rfl, hz1, hz2⟩))
  all_goals
    go_wp2_with fail
    go_ret
    exact ⟨rfl, HB8.out.trans (hz1.mono HB8.out.size)⟩
set_option maxRecDepth 100000 in
set_option maxHeartbeats 4000000 in
theorem law_k2 (k : Int) (m : Int) (u : TypeId) (x : Value) (hv : Vr m u x w) (h : TR w A n f Ab nb b As ns l) (h1 : n ≤ 40) (h2 : nb ≤ 40) (h3 : ns ≤ 40) (hq : rt f n (s : Int) b l = true) (hs : 3 ≤ s) (hk : kd f n = 2) :
    Calls Tryz.prog 3 #[.agg #[.slice A n c, .int .i64 (s : Int), .slice Ab nb cb, .slice As ns cs], .int .i64 k] w fun e w' => e = .returned (.bool true) ∧ Below w.heap.size w w' := by
  obtain ⟨_, s8⟩ := rt_st hq
  have hs3 : ¬ (s : Int) < 3 := by omega
  have SH := Lib.hid (fun w => few_yes A n c (s : Int) Ab nb cb As ns cs w h1 h2 h3)
  have RR := fun w' (hb : Below w.heap.size w w') => rright_any A n c f (s : Int) Ab nb cb b As ns cs l w' (h.later hb) (by omega) (by omega) (by omega)
  rw [hq] at RR
  have zz := Lib.hid RR
  (try clear RR)
  have RR := zz
  clear zz
  have PL := Lib.hid (fun w' (hb : Below w.heap.size w w') => gplain_any A n c f (s : Int) Ab nb cb b As ns cs l w' (h.later hb) (by omega) (by omega) (by omega) hq)
  have NT0 := fun w' (hb : Below w.heap.size w w') => next0_any A n c f (s : Int) Ab nb cb b As ns cs l k w' (h.later hb) (by omega) (by omega) (by omega) hq
  have NT1 := fun w' (hb : Below w.heap.size w w') => next1_any A n c f (s : Int) Ab nb cb b As ns cs l k w' (h.later hb) (by omega) (by omega) (by omega) hq
  have NP0 := fun A1 c1 A2 c2 A3 c3 w' (h' : TR w' A1 n f A2 nb b A3 ns l) => next0_any A1 n c1 f 2 A2 nb c2 b A3 ns c3 l k w' h' (by omega) (by omega) (by omega) (rt_two hq)
  have NP1 := fun A1 c1 A2 c2 A3 c3 w' (h' : TR w' A1 n f A2 nb b A3 ns l) => next1_any A1 n c1 f 2 A2 nb c2 b A3 ns c3 l k w' h' (by omega) (by omega) (by omega) (rt_two hq)
  have q1 := nx1_same n l s k hs (by omega)
  have BT := fun w g c hc => byte_text w g c s (by omega) hc
  have TX := fun A1 c1 A2 c2 A3 c3 w' (h' : TR w' A1 n f A2 nb b A3 ns l) => text_any A1 n c1 f A2 nb c2 b A3 ns c3 l w' h' (by omega) (by omega) (by omega) (rt_two hq)
  have GT := fun w' (hb : Below w.heap.size w w') => gtext_any A n c f s Ab nb cb b As ns cs l w' (h.later hb) (by omega) (by omega) (by omega) hs hq
  obtain ⟨hk', ab, al⟩ := rt_parts hq
  have h9 : n ≤ 9 := by rcases kd_len hk' with h | h | h <;> omega
  have hib : ∀ x ∈ b, 0 ≤ x ∧ x < 10 := fun x hx => by have := asc_bd ab x hx; omega
  have hil : ∀ x ∈ l, 0 ≤ x ∧ x < 10 := fun x hx => by have := asc_bd al x hx; omega
  have htb := tb_in hib hil
  have ltb := tb_len b l
  have lb := reads_len h.2.1
  have ll := reads_len h.2.2
  rw [hk] at TX GT
  unfold gt at GT
  rw [tt_tb] at TX
  rw [show lt 2 = [72] from rfl] at TX GT
  obtain ⟨l0, hl0⟩ : ∃ l0, l0 = tb b l := ⟨_, rfl⟩
  rw [← hl0] at TX GT ltb
  obtain ⟨z, hz⟩ : ∃ z : UInt8, z = 72 := ⟨_, rfl⟩
  rw [← hz] at TX GT
  have lt0 : l0.length ≤ 200 := by omega
  have z1 : (z.toNat : Int) = 72 := by rw [hz]; rfl
  have hR : tx l0 ++ (⟨#[47, 67]⟩ : ByteArray) ++ tx (dg s) ++ tx [z] = tx (l0 ++ [47, 67] ++ dg s ++ [z]) := by
    show ((tx l0 ++ tx [47, 67]) ++ tx (dg s)) ++ tx [z] = _
    rw [tx_add, tx_add, tx_add]
  obtain ⟨N, hN⟩ : ∃ N, N = l0.length := ⟨_, rfl⟩
  have hN2 : N ≤ 200 := by omega
  have hsz : (tx (l0 ++ [z])).size = N + 1 := by rw [tx_size, hN]; simp
  have hzz : ∀ h : N < (tx (l0 ++ [z])).size, ((tx (l0 ++ [z]))[N]'h).toNat = z.toNat := by rw [hN]; exact fun h => congrArg UInt8.toNat (last_at l0 z h)
  have hx0 := ext_first l0 z
  have hx1 := ext_last l0 z
  rw [← hN] at hx0 hx1
  have sD : (tx (dg s)).size = 1 := by rw [tx_size]; rfl
  have sT : (tx l0).size = N := by rw [tx_size, hN]
  have sL : (tx [z]).size = 1 := by rw [tx_size]; rfl
  rw [← hR] at GT
  clear hR htb ltb hN
  clear hl0 hz lt0
  generalize z.toNat = zn at hzz z1
  generalize tx (l0 ++ [z]) = u0 at TX GT hsz hzz hx0 hx1
  generalize tx (dg s) = uD at GT sD BT
  generalize tx l0 = uT at GT hx0 sT
  generalize tx [z] = uL at GT hx1 sL
  clear l0
  obtain ⟨v1, hv1⟩ : ∃ v1, v1 = uT ++ (⟨#[47, 67]⟩ : ByteArray) := ⟨_, rfl⟩
  obtain ⟨v2, hv2⟩ : ∃ v2, v2 = v1 ++ uD := ⟨_, rfl⟩
  obtain ⟨v3, hv3⟩ : ∃ v3, v3 = v2 ++ uL := ⟨_, rfl⟩
  rw [← hv1, ← hv2, ← hv3] at GT
  have y1 : v1.size ≤ 203 := by rw [hv1, ByteArray.size_append, show (⟨#[47, 67]⟩ : ByteArray).size = 2 from rfl]; omega
  have y2 : v2.size ≤ 204 := by rw [hv2, ByteArray.size_append]; omega
  have P1 : ∀ w : World, (Op.stringOp .add uT (⟨#[47, 67]⟩ : ByteArray)).run Tryz.prog w = .ok (.string v1) w := fun w => by rw [hv1]; exact run_string_add_sum w _ _ (by rw [show (⟨#[47, 67]⟩ : ByteArray).size = 2 from rfl]; omega)
  have P2 : ∀ w : World, (Op.stringOp .add v1 uD).run Tryz.prog w = .ok (.string v2) w := fun w => by rw [hv2]; exact run_string_add_sum w _ _ (by omega)
  have P3 : ∀ w : World, (Op.stringOp .add v2 uL).run Tryz.prog w = .ok (.string v3) w := fun w => by rw [hv3]; exact run_string_add_sum w _ _ (by omega)
  clear hv1 hv2 hv3 y1 y2 sD sT sL
  have zz := Lib.hid TX
  (try clear TX)
  have TX := zz
  clear zz
  have zz := Lib.hid GT
  (try clear GT)
  have GT := zz
  clear zz
  have zz := Lib.hid BT
  (try clear BT)
  have BT := zz
  clear zz
  clear ab al hib hil hk hk' h9 lb ll
  generalize nx0 n b k = r0 at NT0 NP0
  generalize nx1 n l (s : Int) k = r1 at NT1 q1
  generalize nx1 n l 2 k = r2 at NP1 q1
  have AW := Lib.hid (fun w h => awake_any m u x w h)
  have HV := Lib.hid hv
  clear hv h hq
  have K := Blk.new w 25 #[.slice A n c, .int .i64 (s : Int), .slice Ab nb cb, .slice As ns cs]
  have B0 := (Below.refl w.heap.size w).alloc (Nat.le_refl _) (.cells #[.slice A n c, .int .i64 (s : Int), .slice Ab nb cb, .slice As ns cs] 25)
  have zz := Lib.hid NT0
  (try clear NT0)
  have NT0 := zz
  clear zz
  have zz := Lib.hid NT1
  (try clear NT1)
  have NT1 := zz
  clear zz
  have zz := Lib.hid NP0
  (try clear NP0)
  have NP0 := zz
  clear zz
  have zz := Lib.hid NP1
  (try clear NP1)
  have NP1 := zz
  clear zz
  go_enter Tryz.func3, Tryz.ntmps3
  go_upto_region 1 with (fail)
  generalize w.alloc (.cells #[.slice A n c, .int .i64 (s : Int), .slice Ab nb cb, .slice As ns cs] 25) = w0 at K B0 ⊢
  generalize w.heap.size = gt at K
  obtain ⟨k0, k1, k2, k3, k4⟩ := K.four
  have HK := Lib.hid K
  have HB0 := Lib.hid B0
  clear K B0
  go_upto_region 4 with (first
    | (go_at_call 7; (with_reducible refine (PL.out _ B2.out).mono ?_); rintro e w3 ⟨A1, c1, A2, c2, A3, c3, rfl, hr, hb⟩)
    | (go_at_call 5; (with_reducible refine (RR.out _ B1.out).mono ?_); rintro e w2 ⟨rfl, hb⟩; have B2 := Lib.hid (B1.out.trans (hb.mono B1.out.size)); have K2 := Lib.hid (K1.out.below' hb); obtain ⟨k0, k1, k2, k3, k4⟩ := (K1.out.below' hb).four; clear hb)
    | (go_at_call 4; (with_reducible refine (SH.out _).mono ?_); rintro e w1 ⟨rfl, hb⟩; have B1 := Lib.hid (HB0.out.trans (hb.mono HB0.out.size)); obtain ⟨k0, k1, k2, k3, k4⟩ := (HK.out.below' hb).four; have K1 := Lib.hid (HK.out.below' hb); clear hb))
  have K4 := (K2.out.below' hb).alloc (.cells #[.slice A1 n c1, .int .i64 2, .slice A2 nb c2, .slice A3 ns c3] 25)
  have P4 := Blk.new w3 25 #[.slice A1 n c1, .int .i64 2, .slice A2 nb c2, .slice A3 ns c3]
  have B3 := B2.out.trans (hb.mono B2.out.size)
  have B4 := B3.alloc B3.size (.cells #[.slice A1 n c1, .int .i64 2, .slice A2 nb c2, .slice A3 ns c3] 25)
  have T4 := hr.later ((Below.refl w3.heap.size w3).alloc (Nat.le_refl _) (.cells #[.slice A1 n c1, .int .i64 2, .slice A2 nb c2, .slice A3 ns c3] 25))
  clear hr hb B3 k0 k1 k2 k3 k4 SH RR PL HK HB0 K1 B1 K2 B2
  generalize w3.alloc (.cells #[.slice A1 n c1, .int .i64 2, .slice A2 nb c2, .slice A3 ns c3] 25) = W4 at K4 P4 B4 T4 ⊢
  generalize w3.heap.size = gp at P4 ⊢
  have HK4 := Lib.hid K4
  have HP4 := Lib.hid P4
  have HB4 := Lib.hid B4
  have HT4 := Lib.hid T4
  clear K4 P4 B4 T4
  go_wp2_with fail
  refine wp_loop_rounds 3 ?_
  rw [rounds_succ]
  go_upto_region 7 with (fail)
  have a0 := fun p : LowW W4.heap.size W4 => (HK4.out.below p.below HK4.out.lt).four.1
  have a1 := fun p : LowW W4.heap.size W4 => (HK4.out.below p.below HK4.out.lt).four.2.1
  have a2 := fun p : LowW W4.heap.size W4 => (HK4.out.below p.below HK4.out.lt).four.2.2.1
  have a3 := fun p : LowW W4.heap.size W4 => (HK4.out.below p.below HK4.out.lt).four.2.2.2.1
  have a4 := fun p : LowW W4.heap.size W4 => (HP4.out.below p.below HP4.out.lt).four.1
  have a5 := fun p : LowW W4.heap.size W4 => (HP4.out.below p.below HP4.out.lt).four.2.1
  have a6 := fun p : LowW W4.heap.size W4 => (HP4.out.below p.below HP4.out.lt).four.2.2.1
  have a7 := fun p : LowW W4.heap.size W4 => (HP4.out.below p.below HP4.out.lt).four.2.2.2.1
  have D0 := Lib.hid (fun p : LowW W4.heap.size W4 => NT0.out p.w (HB4.out.trans (p.below.mono HB4.out.size)))
  have D1 := Lib.hid (fun p : LowW W4.heap.size W4 => NP0.out A1 c1 A2 c2 A3 c3 p.w (HT4.out.later p.below))
  refine wp_region_low W4.heap.size W4 (by kernel_rfl) (by kernel_rfl) (Below.refl _ _) ?_
  repeat (quiet_step (first | (go_at_call 8; with_reducible exact LowW.of_call _ (Nat.le_refl _) (D0.out _)) | (go_at_call 8; with_reducible exact LowW.of_call _ (Nat.le_refl _) (D1.out _))))
  refine wpQuiet_nil ?_
  rintro w' ⟨p, rfl⟩
  have HK5 := Lib.hid (HK4.out.below' p.below)
  have HP5 := Lib.hid (HP4.out.below' p.below)
  have HB5 := Lib.hid (HB4.out.trans (p.below.mono HB4.out.size))
  have HT5 := Lib.hid (HT4.out.later p.below)
  clear a0 a1 a2 a3 a4 a5 a6 a7 D0 D1
  generalize p.w = W5 at HK5 HP5 HB5 HT5 ⊢
  clear p HK4 HP4 HB4 HT4
  go_wp2_with fail
  rw [rounds_succ]
  go_upto_region 7 with (fail)
  have a0 := fun p : LowW W5.heap.size W5 => (HK5.out.below p.below HK5.out.lt).four.1
  have a1 := fun p : LowW W5.heap.size W5 => (HK5.out.below p.below HK5.out.lt).four.2.1
  have a2 := fun p : LowW W5.heap.size W5 => (HK5.out.below p.below HK5.out.lt).four.2.2.1
  have a3 := fun p : LowW W5.heap.size W5 => (HK5.out.below p.below HK5.out.lt).four.2.2.2.1
  have a4 := fun p : LowW W5.heap.size W5 => (HP5.out.below p.below HP5.out.lt).four.1
  have a5 := fun p : LowW W5.heap.size W5 => (HP5.out.below p.below HP5.out.lt).four.2.1
  have a6 := fun p : LowW W5.heap.size W5 => (HP5.out.below p.below HP5.out.lt).four.2.2.1
  have a7 := fun p : LowW W5.heap.size W5 => (HP5.out.below p.below HP5.out.lt).four.2.2.2.1
  have D0 := Lib.hid (fun p : LowW W5.heap.size W5 => NT1.out p.w (HB5.out.trans (p.below.mono HB5.out.size)))
  have D1 := Lib.hid (fun p : LowW W5.heap.size W5 => NP1.out A1 c1 A2 c2 A3 c3 p.w (HT5.out.later p.below))
  refine wp_region_low W5.heap.size W5 (by kernel_rfl) (by kernel_rfl) (Below.refl _ _) ?_
  repeat (quiet_step (first | (go_at_call 8; with_reducible exact LowW.of_call _ (Nat.le_refl _) (D0.out _)) | (go_at_call 8; with_reducible exact LowW.of_call _ (Nat.le_refl _) (D1.out _))))
  refine wpQuiet_nil ?_
  rintro w' ⟨p, rfl⟩
  have HK6 := Lib.hid (HK5.out.below' p.below)
  have HP6 := Lib.hid (HP5.out.below' p.below)
  have HB6 := Lib.hid (HB5.out.trans (p.below.mono HB5.out.size))
  have HT6 := Lib.hid (HT5.out.later p.below)
  clear a0 a1 a2 a3 a4 a5 a6 a7 D0 D1
  generalize p.w = W6 at HK6 HP6 HB6 HT6 ⊢
  clear p HK5 HP5 HB5 HT5
  go_wp2_with fail
  rw [rounds_succ]
  go_upto_region 9 with (fail)
  clear NT0 NT1 NP0 NP1 q1
  obtain ⟨a4, a5, a6, a7, a8⟩ := HP6.out.four
  go_upto_region 11 with (go_at_call 9; (with_reducible refine (TX.out A1 c1 A2 c2 A3 c3 _ HT6.out).mono ?_); rintro e w7 ⟨rfl, hb⟩)
  have HK7 := Lib.hid (HK6.out.below' hb)
  have HB7 := Lib.hid (HB6.out.trans (hb.mono HB6.out.size))
  clear hb a4 a5 a6 a7 a8 HK6 HP6 HB6 HT6 TX
  go_upto_region 12 with (fail)
  go_region
  go_upto_region 13 with (fail)
  have HK8 := Lib.hid (HK7.out.drew)
  have HB8 := Lib.hid (HB7.out.drew)
  clear HK7 HB7 hzz z1 hx0 hx1 hsz hN2
  generalize w7.drew = W8 at HK8 HB8 ⊢
  have GT8 := Lib.hid (show ∀ w', Below W8.heap.size W8 w' → Calls Tryz.prog 10 #[.agg #[.slice A n c, .int .i64 (s : Int), .slice Ab nb cb, .slice As ns cs]] w' fun e w'' => e = .returned (.string v3) ∧ Below W8.heap.size W8 w'' ∧ Below w'.heap.size w' w'' from
    fun w' hb => (GT.out w' (HB8.out.trans (hb.mono HB8.out.size))).mono fun e w'' ⟨he, hx⟩ => ⟨he, hb.trans (hx.mono hb.size), hx⟩)
  have AW8 := Lib.hid (show ∀ w', Below W8.heap.size W8 w' → Calls Tryz.prog 6 #[] w' fun e w'' => e = .returned (.bool true) ∧ Below W8.heap.size W8 w'' ∧ Below w'.heap.size w' w'' from
    fun w' hb => (AW.out w' (HV.out.later (HB8.out.trans (hb.mono HB8.out.size)))).mono fun e w'' ⟨he, hx⟩ => ⟨he, hb.trans (hx.mono hb.size), hx⟩)
  have KP := Lib.hid (show ∀ w', Below W8.heap.size W8 w' → w'.cell? ⟨gt, 0, none⟩ = some (.slice A n c) ∧ w'.cell? ⟨gt, 1, none⟩ = some (.int .i64 (s : Int)) ∧ w'.cell? ⟨gt, 2, none⟩ = some (.slice Ab nb cb) ∧ w'.cell? ⟨gt, 3, none⟩ = some (.slice As ns cs) from
    fun w' hb => ⟨(HK8.out.below' hb).four.1, (HK8.out.below' hb).four.2.1, (HK8.out.below' hb).four.2.2.1, (HK8.out.below' hb).four.2.2.2.1⟩)
  have BT := BT.out
  obtain ⟨k0, k1, k2, k3, k4⟩ := HK8.out.four
  have wu : IntKind.u8.wrap (48 + (s : Int)) = 48 + (s : Int) := IntWalk.u8_in _ (by omega)
  have wi : IntKind.i64.wrap (48 + (s : Int)) = 48 + (s : Int) := IntWalk.i64_in _ (by omega)
  clear GT AW
  go_region_held_law (fun w' => w'.cell? ⟨gt, 0, none⟩ = some (.slice A n c) ∧ w'.cell? ⟨gt, 1, none⟩ = some (.int .i64 (s : Int)) ∧ w'.cell? ⟨gt, 2, none⟩ = some (.slice Ab nb cb) ∧ w'.cell? ⟨gt, 3, none⟩ = some (.slice As ns cs))
    (first | (refine KP.out _ ?_; (with_reducible (repeat (first | assumption | exact Below.refl _ _ | refine Below.drew' ?_ | refine Below.alloc' ?_ _))); done) | go_keep)
    (first | (go_at_call 10; (with_reducible refine (GT8.out _ ?_).mono ?_); (with_reducible (repeat (first | assumption | exact Below.refl _ _ | refine Below.drew' ?_ | refine Below.alloc' ?_ _))); rintro e wa ⟨rfl, ha1, ha2⟩; (try (have hk := Blk.below' (by first | exact (Blk.new _ 5 #[.int .u8 (48 + (s : Int))]) | exact (Blk.new _ 5 #[.int .u8 (48 + (s : Int))]).drew | exact (Blk.new _ 5 #[.int .u8 (48 + (s : Int))]).drew.drew) ha2; have kc : wa.cell? ⟨_, 0, none⟩ = some (.int .u8 (48 + (s : Int))) := (hk.cell 0).trans rfl; clear hk; (try simp at kc)))) | (go_at_call 6; (with_reducible refine (AW8.out _ ?_).mono ?_); (with_reducible (repeat (first | assumption | exact Below.refl _ _ | refine Below.drew' ?_ | refine Below.alloc' ?_ _))); rintro e wz ⟨rfl, hz1, hz2⟩))
  all_goals
    go_wp2_with fail
    go_ret
    exact ⟨rfl, HB8.out.trans (hz1.mono HB8.out.size)⟩
end
end Go.Proofs.YtbdgfegafckkbaaGreatDoor
