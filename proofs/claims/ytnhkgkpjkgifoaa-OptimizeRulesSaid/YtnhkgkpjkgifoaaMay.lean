/- The walks of foldNot, foldPair and foldXor. -/
import Derived.Test.YtnhkgkpjkgifoaaMax
namespace Go.Proofs.Ytnhkgkpjkgifoaa
open Go.RowKit

/-- the same, with the gate's own wire -/
def fNotG (I : Int) (gs : List C3) (own a : Int) : C3 × Int :=
  if isF I gs a 0 = true then ((1, 0, 0), own) else if isF I gs a 1 = true then ((0, 0, 0), own) else if isF I gs a 2 = true then ((2, a, 0), (gtF I gs a).2.1) else ((2, a, 0), own)
def fPairG (I : Int) (gs : List C3) (own : Int) (g : C3) (dec lea : Int) : C3 × Int :=
  if (isF I gs g.2.1 dec || isF I gs g.2.2 dec) = true then ((dec, 0, 0), own) else if isF I gs g.2.1 lea = true then (g, g.2.2)
  else if (isF I gs g.2.2 lea || decide (g.2.1 = g.2.2)) = true then (g, g.2.1) else if opF I gs g.2.1 g.2.2 = true then ((dec, 0, 0), own) else (g, own)
def fXorG (I : Int) (gs : List C3) (own : Int) (g : C3) : C3 × Int :=
  if isF I gs g.2.1 0 = true then (g, g.2.2) else if isF I gs g.2.2 0 = true then (g, g.2.1) else if g.2.1 = g.2.2 then ((0, 0, 0), own)
  else if opF I gs g.2.1 g.2.2 = true then ((1, 0, 0), own) else if isF I gs g.2.1 1 = true then fNotG I gs own g.2.2
  else if isF I gs g.2.2 1 = true then fNotG I gs own g.2.1 else (g, own)
/-- an answer as a value -/
def aV (r : C3 × Int) : Value := .tuple #[gV r.1, .int .i64 r.2]
section
variable {wk N cA nv cV : Nat} {A V : Option Addr} {O M : Value} {gs : List C3} {w : World}
set_option maxRecDepth 100000 in
set_option maxHeartbeats 4000000 in
theorem foldNot_any (h : RK wk N A cA O V nv cV M gs w) (x : Int) (h0 : 0 ≤ x) (hx : x < (N : Int) + (gs.length : Int)) (hN : N ≤ 1000) (hl : gs.length ≤ 20000) :
    Calls Try.prog 85 #[.pointer (some ⟨wk, 0, none⟩), .int .i64 x] w fun e w' => e = .returned (aV (fNotG (N : Int) gs (nv : Int) x)) ∧ Below w.heap.size w w' := by
  have IS := Lib.hid (fun w' op (hb : Below w.heap.size w w') => is_any (h.later hb) x op h0 hx hN hl)
  have KE := Lib.hid (fun w' o a b (hb : Below w.heap.size w w') => kept_any (h.later hb) o a b)
  have GO := Lib.hid (fun w' (hb : Below w.heap.size w w') k hk => gateOf_any (h.later hb) k hk hN hl)
  have K4 := (Blk.new w 57 #[.int .i64 0, .int .i64 0, .int .i64 0]).alloc (.cells #[.int .i64 2, .int .i64 x, .int .i64 0] 57)
  have K6 := Blk.new (w.alloc (.cells #[.int .i64 0, .int .i64 0, .int .i64 0] 57)) 57 #[.int .i64 2, .int .i64 x, .int .i64 0]
  rw [World.size_alloc] at K6
  have B0 : Below w.heap.size w ((w.alloc (.cells #[.int .i64 0, .int .i64 0, .int .i64 0] 57)).alloc (.cells #[.int .i64 2, .int .i64 x, .int .i64 0] 57)) := ((Below.refl _ w).alloc (Nat.le_refl _) _).alloc (by simp) _
  unfold fNotG aV
  obtain ⟨p0, hp0⟩ : ∃ p, isF (N : Int) gs x 0 = p := ⟨_, rfl⟩
  obtain ⟨p1, hp1⟩ : ∃ p, isF (N : Int) gs x 1 = p := ⟨_, rfl⟩
  obtain ⟨p2, hp2⟩ : ∃ p, isF (N : Int) gs x 2 = p := ⟨_, rfl⟩
  have I0 := Lib.hid (fun w' hb => by have q := IS.out w' 0 hb; rwa [hp0] at q)
  have I1 := Lib.hid (fun w' hb => by have q := IS.out w' 1 hb; rwa [hp1] at q)
  have I2 := Lib.hid (fun w' hb => by have q := IS.out w' 2 hb; rwa [hp2] at q)
  rw [hp0, hp1, hp2]
  clear IS h
  cases p0 with
  | true =>
    rw [if_pos rfl]
    simp only [gV]
    clear hp0 hp1 hp2 GO I1 I2
    go_enter Try.func85, Try.ntmps85
    go_upto_region 2 with (fail)
    generalize (w.alloc (.cells #[.int .i64 0, .int .i64 0, .int .i64 0] 57)).alloc (.cells #[.int .i64 2, .int .i64 x, .int .i64 0] 57) = w1 at *
    have Bw1 := Lib.hid B0
    have K4w1 := Lib.hid K4
    have K6w1 := Lib.hid K6
    clear B0 K4 K6
    go_upto_region 3 with (go_at_call 114; (with_reducible refine (I0.out _ Bw1.out).mono ?_); rintro e w2 ⟨rfl, hb⟩; have Bw2 := Lib.hid (Bw1.out.trans (hb.mono Bw1.out.size)); have K4w2 := Lib.hid (K4w1.out.below hb K4w1.out.lt); have K6w2 := Lib.hid (K6w1.out.below hb K6w1.out.lt); clear hb)
    have KK := Lib.hid (KE.out _ 1 0 0 Bw2.out)
    go_wp2_with (go_at_call 88; (with_reducible refine (KK.out).mono ?_); rintro e w9 ⟨rfl, hb⟩; have Bw9 := Lib.hid (Bw2.out.trans (hb.mono Bw2.out.size)); have K4w9 := Lib.hid (K4w2.out.below hb K4w2.out.lt); obtain ⟨r0, r1, r2, r3, r4, r5, r6⟩ := K4w9.out.three6; clear hb)
    have KZ := K4w9.out.tri (.int .i64 1) (.int .i64 0) (.int .i64 0)
    obtain ⟨e0, e1', e2, _, _, _, _⟩ := KZ.three6
    exact bodyPost_ret (v := .tuple #[.agg #[.int .i64 1, .int .i64 0, .int .i64 0], .int .i64 (nv : Int)]) (by simp [results, Try.results85, go_sem, e0, e1', e2]) rfl ⟨rfl, ((Bw9.out.setCell (p := ⟨w.heap.size, 0, none⟩) (by first | exact Nat.le_refl _ | exact Nat.le_succ _) _).setCell (p := ⟨w.heap.size, 1, none⟩) (by first | exact Nat.le_refl _ | exact Nat.le_succ _) _).setCell (p := ⟨w.heap.size, 2, none⟩) (by first | exact Nat.le_refl _ | exact Nat.le_succ _) _⟩
  | false =>
    rw [if_neg (by decide)]
    cases p1 with
    | true =>
      rw [if_pos rfl]
      simp only [gV]
      clear hp0 hp1 hp2 GO I2
      go_enter Try.func85, Try.ntmps85
      go_upto_region 2 with (fail)
      generalize (w.alloc (.cells #[.int .i64 0, .int .i64 0, .int .i64 0] 57)).alloc (.cells #[.int .i64 2, .int .i64 x, .int .i64 0] 57) = w1 at *
      have Bw1 := Lib.hid B0
      have K4w1 := Lib.hid K4
      have K6w1 := Lib.hid K6
      clear B0 K4 K6
      go_upto_region 4 with (go_at_call 114; (with_reducible refine (I0.out _ Bw1.out).mono ?_); rintro e w2 ⟨rfl, hb⟩; have Bw2 := Lib.hid (Bw1.out.trans (hb.mono Bw1.out.size)); have K4w2 := Lib.hid (K4w1.out.below hb K4w1.out.lt); have K6w2 := Lib.hid (K6w1.out.below hb K6w1.out.lt); clear hb)
      go_upto_region 5 with (go_at_call 114; (with_reducible refine (I1.out _ Bw2.out).mono ?_); rintro e w3 ⟨rfl, hb⟩; have Bw3 := Lib.hid (Bw2.out.trans (hb.mono Bw2.out.size)); have K4w3 := Lib.hid (K4w2.out.below hb K4w2.out.lt); have K6w3 := Lib.hid (K6w2.out.below hb K6w2.out.lt); clear hb)
      have KK := Lib.hid (KE.out _ 0 0 0 Bw3.out)
      go_wp2_with (go_at_call 88; (with_reducible refine (KK.out).mono ?_); rintro e w9 ⟨rfl, hb⟩; have Bw9 := Lib.hid (Bw3.out.trans (hb.mono Bw3.out.size)); have K4w9 := Lib.hid (K4w3.out.below hb K4w3.out.lt); obtain ⟨r0, r1, r2, r3, r4, r5, r6⟩ := K4w9.out.three6; clear hb)
      have KZ := K4w9.out.tri (.int .i64 0) (.int .i64 0) (.int .i64 0)
      obtain ⟨e0, e1', e2, _, _, _, _⟩ := KZ.three6
      exact bodyPost_ret (v := .tuple #[.agg #[.int .i64 0, .int .i64 0, .int .i64 0], .int .i64 (nv : Int)]) (by simp [results, Try.results85, go_sem, e0, e1', e2]) rfl ⟨rfl, ((Bw9.out.setCell (p := ⟨w.heap.size, 0, none⟩) (by first | exact Nat.le_refl _ | exact Nat.le_succ _) _).setCell (p := ⟨w.heap.size, 1, none⟩) (by first | exact Nat.le_refl _ | exact Nat.le_succ _) _).setCell (p := ⟨w.heap.size, 2, none⟩) (by first | exact Nat.le_refl _ | exact Nat.le_succ _) _⟩
    | false =>
      rw [if_neg (by decide)]
      cases p2 with
      | true =>
        rw [if_pos rfl]
        have hle : (N : Int) ≤ x := by simp [isF] at hp2; exact hp2.1
        obtain ⟨k, rfl⟩ : ∃ k : Nat, x = (N : Int) + (k : Int) := ⟨(x - (N : Int)).toNat, by omega⟩
        have GO := Lib.hid (fun w' (hb : Below w.heap.size w w') => GO.out w' hb k (by omega))
        rw [gtF_at]
        obtain ⟨⟨o, a, b⟩, hg⟩ : ∃ x, gs.getD k (0, 0, 0) = x := ⟨_, rfl⟩
        rw [hg] at GO ⊢
        simp only [gV] at GO ⊢
        have f1 := fld1 o a b
        clear hp0 hp1 hp2 hg
        go_enter Try.func85, Try.ntmps85
        go_upto_region 2 with (fail)
        generalize (w.alloc (.cells #[.int .i64 0, .int .i64 0, .int .i64 0] 57)).alloc (.cells #[.int .i64 2, .int .i64 ((N : Int) + (k : Int)), .int .i64 0] 57) = w1 at *
        have Bw1 := Lib.hid B0
        have K4w1 := Lib.hid K4
        have K6w1 := Lib.hid K6
        clear B0 K4 K6
        go_upto_region 4 with (go_at_call 114; (with_reducible refine (I0.out _ Bw1.out).mono ?_); rintro e w2 ⟨rfl, hb⟩; have Bw2 := Lib.hid (Bw1.out.trans (hb.mono Bw1.out.size)); have K4w2 := Lib.hid (K4w1.out.below hb K4w1.out.lt); have K6w2 := Lib.hid (K6w1.out.below hb K6w1.out.lt); clear hb)
        go_upto_region 6 with (go_at_call 114; (with_reducible refine (I1.out _ Bw2.out).mono ?_); rintro e w3 ⟨rfl, hb⟩; have Bw3 := Lib.hid (Bw2.out.trans (hb.mono Bw2.out.size)); have K4w3 := Lib.hid (K4w2.out.below hb K4w2.out.lt); have K6w3 := Lib.hid (K6w2.out.below hb K6w2.out.lt); clear hb)
        go_upto_region 7 with (go_at_call 114; (with_reducible refine (I2.out _ Bw3.out).mono ?_); rintro e w4 ⟨rfl, hb⟩; have Bw4 := Lib.hid (Bw3.out.trans (hb.mono Bw3.out.size)); have K4w4 := Lib.hid (K4w3.out.below hb K4w3.out.lt); have K6w4 := Lib.hid (K6w3.out.below hb K6w3.out.lt); clear hb)
        obtain ⟨q0, q1, q2, q3, q4, q5, q6⟩ := K6w4.out.three6
        obtain ⟨r0, r1, r2, r3, r4, r5, r6⟩ := K4w4.out.three6
        go_region_law ((go_simp; go_at_call 115; (with_reducible refine (GO.out _ Bw4.out.drew).mono ?_); rintro e w9 ⟨rfl, hb⟩; have Bw9 := Lib.hid (Bw4.out.drew.trans (hb.mono Bw4.out.drew.size)); have K4w9 := Lib.hid ((Blk.drew K4w4.out).below hb (Blk.drew K4w4.out).lt); have K6w9 := Lib.hid ((Blk.drew K6w4.out).below hb (Blk.drew K6w4.out).lt); obtain ⟨s0, s1, s2, s3, s4, s5, s6⟩ := K4w9.out.three6; obtain ⟨u0, u1, u2, u3, u4, u5, u6⟩ := K6w9.out.three6; clear hb))
        all_goals
          go_wp2_with fail
          have KZ := K4w9.out.tri (.int .i64 2) (.int .i64 ((N : Int) + (k : Int))) (.int .i64 0)
          obtain ⟨e0, e1', e2, _, _, _, _⟩ := KZ.three6
          exact bodyPost_ret (v := .tuple #[.agg #[.int .i64 2, .int .i64 ((N : Int) + (k : Int)), .int .i64 0], .int .i64 a]) (by simp [results, Try.results85, go_sem, e0, e1', e2]) rfl ⟨rfl, ((Bw9.out.setCell (p := ⟨w.heap.size, 0, none⟩) (by first | exact Nat.le_refl _ | exact Nat.le_succ _) _).setCell (p := ⟨w.heap.size, 1, none⟩) (by first | exact Nat.le_refl _ | exact Nat.le_succ _) _).setCell (p := ⟨w.heap.size, 2, none⟩) (by first | exact Nat.le_refl _ | exact Nat.le_succ _) _⟩
      | false =>
        rw [if_neg (by decide)]
        simp only [gV]
        clear hp0 hp1 hp2 GO
        go_enter Try.func85, Try.ntmps85
        go_upto_region 2 with (fail)
        generalize (w.alloc (.cells #[.int .i64 0, .int .i64 0, .int .i64 0] 57)).alloc (.cells #[.int .i64 2, .int .i64 x, .int .i64 0] 57) = w1 at *
        have Bw1 := Lib.hid B0
        have K4w1 := Lib.hid K4
        have K6w1 := Lib.hid K6
        clear B0 K4 K6
        go_upto_region 4 with (go_at_call 114; (with_reducible refine (I0.out _ Bw1.out).mono ?_); rintro e w2 ⟨rfl, hb⟩; have Bw2 := Lib.hid (Bw1.out.trans (hb.mono Bw1.out.size)); have K4w2 := Lib.hid (K4w1.out.below hb K4w1.out.lt); have K6w2 := Lib.hid (K6w1.out.below hb K6w1.out.lt); clear hb)
        go_upto_region 6 with (go_at_call 114; (with_reducible refine (I1.out _ Bw2.out).mono ?_); rintro e w3 ⟨rfl, hb⟩; have Bw3 := Lib.hid (Bw2.out.trans (hb.mono Bw2.out.size)); have K4w3 := Lib.hid (K4w2.out.below hb K4w2.out.lt); have K6w3 := Lib.hid (K6w2.out.below hb K6w2.out.lt); clear hb)
        go_upto_region 8 with (go_at_call 114; (with_reducible refine (I2.out _ Bw3.out).mono ?_); rintro e w4 ⟨rfl, hb⟩; have Bw4 := Lib.hid (Bw3.out.trans (hb.mono Bw3.out.size)); have K4w4 := Lib.hid (K4w3.out.below hb K4w3.out.lt); have K6w4 := Lib.hid (K6w3.out.below hb K6w3.out.lt); clear hb)
        obtain ⟨q0, q1, q2, q3, q4, q5, q6⟩ := K6w4.out.three6
        have KK := Lib.hid (KE.out _ 2 x 0 Bw4.out)
        go_wp2_with (go_at_call 88; (with_reducible refine (KK.out).mono ?_); rintro e w9 ⟨rfl, hb⟩; have Bw9 := Lib.hid (Bw4.out.trans (hb.mono Bw4.out.size)); have K4w9 := Lib.hid (K4w4.out.below hb K4w4.out.lt); obtain ⟨r0, r1, r2, r3, r4, r5, r6⟩ := K4w9.out.three6; clear hb)
        have KZ := K4w9.out.tri (.int .i64 2) (.int .i64 x) (.int .i64 0)
        obtain ⟨e0, e1', e2, _, _, _, _⟩ := KZ.three6
        exact bodyPost_ret (v := .tuple #[.agg #[.int .i64 2, .int .i64 x, .int .i64 0], .int .i64 (nv : Int)]) (by simp [results, Try.results85, go_sem, e0, e1', e2]) rfl ⟨rfl, ((Bw9.out.setCell (p := ⟨w.heap.size, 0, none⟩) (by first | exact Nat.le_refl _ | exact Nat.le_succ _) _).setCell (p := ⟨w.heap.size, 1, none⟩) (by first | exact Nat.le_refl _ | exact Nat.le_succ _) _).setCell (p := ⟨w.heap.size, 2, none⟩) (by first | exact Nat.le_refl _ | exact Nat.le_succ _) _⟩
end
end Go.Proofs.Ytnhkgkpjkgifoaa
