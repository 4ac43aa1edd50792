/- The walk of Text on rules of two states. -/
import Derived.Test.YtbdgfegafckkbaaGreatDoorParse
import Derived.BigQuiet
namespace Go.Proofs.YtbdgfegafckkbaaGreatDoor
open Go.RowKit

/-- the notation -/
def tt (k : Nat) (b l : List Int) : List UInt8 := [66] ++ dgs b ++ [47, 83] ++ dgs l ++ lt k
theorem kd_len {f : Nat → P2} {n : Nat} (h : kd f n < 3) : n = 9 ∨ n = 5 ∨ n = 7 := by
  unfold kd at h
  split at h
  · next h1 => exact .inl ((sm_iff _ _ _ _).1 h1).1.symm
  · split at h
    · next h1 => exact .inr (.inl ((sm_iff _ _ _ _).1 h1).1.symm)
    · split at h
      · next h1 => exact .inr (.inr ((sm_iff _ _ _ _).1 h1).1.symm)
      · omega
theorem rt_parts {f : Nat → P2} {n : Nat} {s : Int} {b l : List Int} (h : rt f n s b l = true) : kd f n < 3 ∧ asc b (n : Int) = true ∧ asc l (n : Int) = true := by
  simp only [rt, Bool.and_eq_true, decide_eq_true_eq] at h
  exact ⟨h.1, h.2.2.2.1, h.2.2.2.2⟩
set_option maxRecDepth 100000 in
set_option maxHeartbeats 2000000 in
theorem text_any (A : Option Addr) (n c : Nat) (f : Nat → P2) (Ab : Option Addr) (nb cb : Nat) (b : List Int) (As : Option Addr) (ns cs : Nat) (l : List Int) (w : World) (h : TR w A n f Ab nb b As ns l) (hn : n ≤ 1000) (hnb : nb ≤ 60) (hns : ns ≤ 60) (hq : rt f n 2 b l = true) :
    Calls Tryz.prog 9 #[.agg #[.slice A n c, .int .i64 2, .slice Ab nb cb, .slice As ns cs]] w fun e w' => e = .returned (.string (tx (tt (kd f n) b l))) ∧ Below w.heap.size w w' := by
  obtain ⟨hk, ab, al⟩ := rt_parts hq
  have h9 : n ≤ 9 := by rcases kd_len hk with h | h | h <;> omega
  have PL := fun w' (hb : Below w.heap.size w w') => plain_any A n c f 2 Ab nb cb b As ns cs l w' (h.later hb) hn (by omega) (by omega)
  rw [hq] at PL
  have LO := fun w' (hb : Below w.heap.size w w') => letterOf_any A n c f w' (h.later hb).1 (by omega)
  have DB := fun w' (hb : Below w.heap.size w w') => digits_any Ab nb cb _ b w' (h.later hb).2.1 (by omega) (fun x hx => by have := asc_bd ab x hx; omega)
  have DS := fun w' (hb : Below w.heap.size w w') => digits_any As ns cs _ l w' (h.later hb).2.2 (by omega) (fun x hx => by have := asc_bd al x hx; omega)
  have z1 : (tx (dgs b)).size ≤ 60 := by rw [tx_size, dgs_len, reads_len h.2.1]; omega
  have z2 : (tx (dgs l)).size ≤ 60 := by rw [tx_size, dgs_len, reads_len h.2.2]; omega
  have z3 : (tx (lt (kd f n))).size ≤ 1 := by
    rw [tx_size]; unfold lt; split
    · decide
    · split <;> decide
  have HT := Lib.hid (show (((((⟨#[66]⟩ : ByteArray) ++ tx (dgs b)) ++ ⟨#[47, 83]⟩) ++ tx (dgs l)) ++ tx (lt (kd f n))) = tx (tt (kd f n) b l) by
    show (((tx [66] ++ tx (dgs b)) ++ tx [47, 83]) ++ tx (dgs l)) ++ tx (lt (kd f n)) = _
    rw [tx_add, tx_add, tx_add, tx_add]; rfl)
  have K := Lib.hid (Blk.new w 25 #[.slice A n c, .int .i64 2, .slice Ab nb cb, .slice As ns cs])
  have B0 := Lib.hid ((Below.refl w.heap.size w).alloc (Nat.le_refl _) (.cells #[.slice A n c, .int .i64 2, .slice Ab nb cb, .slice As ns cs] 25))
  clear h hq ab al
  rw [← HT.out]
  generalize tx (dgs b) = u1 at DB z1 HT ⊢
  generalize tx (dgs l) = u2 at DS z2 HT ⊢
  generalize tx (lt (kd f n)) = u3 at LO z3 HT ⊢
  rw [decide_eq_true hk] at LO
  obtain ⟨v1, hv1⟩ : ∃ v1, v1 = (⟨#[66]⟩ : ByteArray) ++ u1 := ⟨_, rfl⟩
  obtain ⟨v2, hv2⟩ : ∃ v2, v2 = v1 ++ (⟨#[47, 83]⟩ : ByteArray) := ⟨_, rfl⟩
  obtain ⟨v3, hv3⟩ : ∃ v3, v3 = v2 ++ u2 := ⟨_, rfl⟩
  obtain ⟨v4, hv4⟩ : ∃ v4, v4 = v3 ++ u3 := ⟨_, rfl⟩
  rw [← hv1, ← hv2, ← hv3, ← hv4]
  have y1 : v1.size ≤ 61 := by rw [hv1, ByteArray.size_append, show (⟨#[66]⟩ : ByteArray).size = 1 from rfl]; omega
  have y2 : v2.size ≤ 63 := by rw [hv2, ByteArray.size_append, show (⟨#[47, 83]⟩ : ByteArray).size = 2 from rfl]; omega
  have y3 : v3.size ≤ 123 := by rw [hv3, ByteArray.size_append]; omega
  have P1 : ∀ w : World, (Op.stringOp .add (⟨#[66]⟩ : ByteArray) u1).run Tryz.prog w = .ok (.string v1) w := fun w => by rw [hv1]; exact run_string_add_sum w _ _ (by rw [show (⟨#[66]⟩ : ByteArray).size = 1 from rfl]; omega)
  have P2 : ∀ w : World, (Op.stringOp .add v1 (⟨#[47, 83]⟩ : ByteArray)).run Tryz.prog w = .ok (.string v2) w := fun w => by rw [hv2]; exact run_string_add_sum w _ _ (by rw [show (⟨#[47, 83]⟩ : ByteArray).size = 2 from rfl]; omega)
  have P3 : ∀ w : World, (Op.stringOp .add v2 u2).run Tryz.prog w = .ok (.string v3) w := fun w => by rw [hv3]; exact run_string_add_sum w _ _ (by omega)
  have P4 : ∀ w : World, (Op.stringOp .add v3 u3).run Tryz.prog w = .ok (.string v4) w := fun w => by rw [hv4]; exact run_string_add_sum w _ _ (by omega)
  clear hv1 hv2 hv3 hv4 y1 y2 y3 z1 z2 z3
  have zz := Lib.hid PL
  (try clear PL)
  have PL := zz
  clear zz
  have zz := Lib.hid LO
  (try clear LO)
  have LO := zz
  clear zz
  have zz := Lib.hid DB
  (try clear DB)
  have DB := zz
  clear zz
  have zz := Lib.hid DS
  (try clear DS)
  have DS := zz
  clear zz
  clear HT hk
  go_enter Tryz.func9, Tryz.ntmps9
  go_wp2_with (first
    | (go_at_call 19; (with_reducible refine (PL.out _ B0.out).mono ?_); rintro e w1 ⟨rfl, hb⟩; have B1 := Lib.hid (B0.out.trans (hb.mono B0.out.size)); have K1 := Lib.hid (K.out.below hb K.out.lt); obtain ⟨k0, k1, k2, k3, k4⟩ := K1.out.four; clear hb)
    | (go_at_call 20; (with_reducible refine (LO.out _ B1.out).mono ?_); rintro e w2 ⟨rfl, hb⟩; have B2 := Lib.hid (B1.out.trans (hb.mono B1.out.size)); have K2 := Lib.hid (K1.out.below hb K1.out.lt); obtain ⟨x0, x1, x2, x3, x4⟩ := K2.out.four; clear hb)
    | (go_at_call 21; fail))
  have q0 := fun p : LowW w2.heap.size w2 => (K2.out.below p.below K2.out.lt).four.2.2.1
  have q1 := fun p : LowW w2.heap.size w2 => (K2.out.below p.below K2.out.lt).four.2.2.2.1
  have D1 := Lib.hid (fun p : LowW w2.heap.size w2 => below_quiet (DB.out p.w (B2.out.trans (p.below.mono B2.out.size))))
  have D2 := Lib.hid (fun p : LowW w2.heap.size w2 => below_quiet (DS.out p.w (B2.out.trans (p.below.mono B2.out.size))))
  clear DB DS PL LO x0 x1 x2 x3 x4 k0 k1 k2 k3 k4
  refine wp_region_low w2.heap.size w2 (by kernel_rfl) (by kernel_rfl) (Below.refl _ _) ?_
  quiet_step (fail)
  quiet_step (fail)
  quiet_step (first | (go_at_call 21; with_reducible exact LowW.of_call _ (Nat.le_refl _) (D1.out _)) | (go_at_call 21; with_reducible exact LowW.of_call _ (Nat.le_refl _) (D2.out _)))
  repeat (quiet_step (first | (go_at_call 21; with_reducible exact LowW.of_call _ (Nat.le_refl _) (D1.out _)) | (go_at_call 21; with_reducible exact LowW.of_call _ (Nat.le_refl _) (D2.out _))))
  refine wpQuiet_nil ?_
  rintro w' ⟨p, rfl⟩
  have B3 := Lib.hid (B2.out.trans (p.below.mono B2.out.size))
  clear q0 q1
  generalize p.w = w3 at B3 ⊢
  go_wp2
  go_ret
  exact ⟨rfl, B3.out⟩
end Go.Proofs.YtbdgfegafckkbaaGreatDoor
