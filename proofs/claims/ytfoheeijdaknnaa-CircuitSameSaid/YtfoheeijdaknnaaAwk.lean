/- The walk of alive: the chapter's examples hold. -/
import Derived.Test.YtfoheeijdaknnaaAdd
import Derived.Deep.RegionHeldLaw
namespace Go.Proofs.Ytfoheeijdaknnaa
open Go.RowKit

section
variable (AG AO XG XO : Option Addr) (cG cO dG dO : Nat) (w : World)
theorem x_eval (g : Nat) (h : CS w AG AO had) (hb : Blk w g 4 #[.bool true, .bool true]) : Calls Try.prog 8 #[.agg #[.int .i64 2, .slice AG 2 cG, .slice AO 2 cO], .slice (some ⟨g, 0, none⟩) 2 2] w fun e w' => ∃ A c, e = .returned (.tuple #[.slice A 2 c, .int .i64 0]) ∧ Reads w' w'.heap.size A 2 (bl [false, true]) ∧ Below w.heap.size w w' := by
  have := ceval_any AG AO (some ⟨g, 0, none⟩) cG cO 2 had [true, true] w h (Reads.of_blk (xs := bl [true, true]) hb) had_rt rfl
  rw [had_ev] at this
  exact this
theorem x_words (g : Nat) (h : CS w AG AO had) (hb : Blk w g 36 #[.int .u64 12, .int .u64 10]) : Calls Try.prog 9 #[.agg #[.int .i64 2, .slice AG 2 cG, .slice AO 2 cO], .slice (some ⟨g, 0, none⟩) 2 2] w fun e w' => ∃ g c, e = .returned (.tuple #[.slice (some ⟨g, 0, none⟩) 2 c, .int .i64 0]) ∧ Reads w' w'.heap.size (some ⟨g, 0, none⟩) 2 (ul [6, 8]) ∧ Below w.heap.size w w' := by
  have := cwords_any AG AO ⟨g, 0, none⟩ cG cO 2 had [12, 10] w h (Reads.of_blk (xs := ul [12, 10]) hb) had_rt rfl
  rw [had_wd] at this
  exact this
theorem x_join (h : CS w AG AO had) : Calls Try.prog 10 #[.agg #[.int .i64 2, .slice AG 2 cG, .slice AO 2 cO], .agg #[.int .i64 2, .slice AG 2 cG, .slice AO 2 cO]] w fun e w' => ∃ XG XO eG eO, e = .returned (.tuple #[.agg #[.int .i64 2, .slice XG 4 eG, .slice XO 2 eO], .int .i64 0]) ∧ CS w' XG XO hjn ∧ Below w.heap.size w w' :=
  join_any AG AO AG AO cG cO cG cO had had w h h had_rt had_rt rfl (by decide) (by decide) (by decide) (by decide) (by decide)
theorem x_evalj (g : Nat) (h : CS w XG XO hjn) (hb : Blk w g 4 #[.bool true, .bool true]) : Calls Try.prog 8 #[.agg #[.int .i64 2, .slice XG 4 dG, .slice XO 2 dO], .slice (some ⟨g, 0, none⟩) 2 2] w fun e w' => ∃ A c, e = .returned (.tuple #[.slice A 2 c, .int .i64 0]) ∧ Reads w' w'.heap.size A 2 (bl [true, false]) ∧ Below w.heap.size w w' := by
  have := ceval_any XG XO (some ⟨g, 0, none⟩) dG dO 2 hjn [true, true] w h (Reads.of_blk (xs := bl [true, true]) hb) hjn_rt rfl
  rw [hjn_ev] at this
  exact this
theorem x_evaln (h : CS w AG AO had) : Calls Try.prog 8 #[.agg #[.int .i64 2, .slice AG 2 cG, .slice AO 2 cO], .slice none 0 0] w fun e w' => e = .returned (.tuple #[.slice none 0 0, .int .i64 2]) ∧ Below w.heap.size w w' :=
  ceval_no AG AO none cG cO 0 0 had w h (by decide) (by decide) (by decide)
theorem x_bools (A : Option Addr) (c g : Nat) (x y : Bool) (h : Reads w w.heap.size A 2 (bl [x, y])) (hb : Blk w g 4 #[.bool x, .bool y]) : Calls Try.prog 11 #[.slice A 2 c, .slice (some ⟨g, 0, none⟩) 2 2] w fun e w' => e = .returned (.bool true) ∧ Below w.heap.size w w' :=
  sbools_yes A (some ⟨g, 0, none⟩) 2 c 2 [x, y] w h (Reads.of_blk (xs := bl [x, y]) hb) (by decide)
theorem x_depth (h : CS w AG AO had) : Calls Try.prog 12 #[.agg #[.int .i64 2, .slice AG 2 cG, .slice AO 2 cO]] w fun e w' => e = .returned (.int .i64 1) ∧ Below w.heap.size w w' := by
  have := depth_any AG AO cG cO had w h had_rt
  rw [had_dp] at this
  exact this
theorem x_depthj (h : CS w XG XO hjn) : Calls Try.prog 12 #[.agg #[.int .i64 2, .slice XG 4 dG, .slice XO 2 dO]] w fun e w' => e = .returned (.int .i64 2) ∧ Below w.heap.size w w' := by
  have := depth_any XG XO dG dO hjn w h hjn_rt
  rw [hjn_dp] at this
  exact this
theorem x_right (h : CS w AG AO had) : Calls Try.prog 13 #[.agg #[.int .i64 2, .slice AG 2 cG, .slice AO 2 cO]] w fun e w' => e = .returned (.bool true) ∧ Below w.heap.size w w' := by
  have := right_any AG AO cG cO had w h (by decide) (by decide)
  rw [had_rt] at this
  exact this
theorem x_bad (g : Nat) (hb : Blk w g 43 #[.int .i64 2, .int .i64 0, .int .i64 0]) : Calls Try.prog 13 #[.agg #[.int .i64 0, .slice (some ⟨g, 0, none⟩) 1 1, .slice none 0 0]] w fun e w' => e = .returned (.bool false) ∧ Below w.heap.size w w' := by
  have h : CS w (some ⟨g, 0, none⟩) none hbad := ⟨fun _ => ⟨g, 0, rfl, hb.lt, fun k hk => by
    match k, hk with
    | 0, _ => exact ⟨hb.cell 0, hb.cell 1, hb.cell 2⟩⟩, Reads.none_⟩
  have := right_any (some ⟨g, 0, none⟩) none 1 0 hbad w h (by decide) (by decide)
  rw [hbad_rt] at this
  exact this
theorem x_same (BG BO : Option Addr) (eG eO : Nat) (h : CS w AG AO had) (h' : CS w BG BO had) : Calls Try.prog 5 #[.agg #[.int .i64 2, .slice AG 2 cG, .slice AO 2 cO], .agg #[.int .i64 2, .slice BG 2 eG, .slice BO 2 eO]] w fun e w' => e = .returned (.bool true) ∧ Below w.heap.size w w' := by
  have := csame_any AG AO BG BO cG cO eG eO had had w h h' (by decide) (by decide) (by decide) (by decide)
  rw [qs_self] at this
  exact this
theorem x_diff (h : CS w AG AO had) (h' : CS w XG XO hjn) : Calls Try.prog 5 #[.agg #[.int .i64 2, .slice AG 2 cG, .slice AO 2 cO], .agg #[.int .i64 2, .slice XG 4 dG, .slice XO 2 dO]] w fun e w' => e = .returned (.bool false) ∧ Below w.heap.size w w' := by
  have := csame_any AG AO XG XO cG cO dG dO had hjn w h h' (by decide) (by decide) (by decide) (by decide)
  rw [had_hjn] at this
  exact this
end
set_option maxRecDepth 100000 in
set_option maxHeartbeats 8000000 in
theorem awake_any (w : World) : Calls Try.prog 4 #[] w fun e w' => e = .returned (.bool true) ∧ Below w.heap.size w w' := by
  have AD := Lib.hid (fun w => adder_any w)
  go_enter Try.func4, Try.ntmps4
  go_upto_region 2 with (go_at_call 7; (with_reducible refine (AD.out _).mono ?_); rintro e w1 ⟨AG, cG, AO, cO, rfl, hc, hb⟩; have B1 := Lib.hid hb; have C1 := Lib.hid hc; clear hb hc)
  have X := (Below.refl w1.heap.size w1).alloc (Nat.le_refl _) (.cells #[.int .i64 2, .slice AG 2 cG, .slice AO 2 cO] 25)
  have K2 := Lib.hid (Blk.new w1 25 #[.int .i64 2, .slice AG 2 cG, .slice AO 2 cO])
  have C2 := Lib.hid (C1.out.later X)
  have B2 := Lib.hid (B1.out.trans (X.mono B1.out.size))
  clear X C1 B1
  generalize w1.alloc (.cells #[.int .i64 2, .slice AG 2 cG, .slice AO 2 cO] 25) = w2 at *
  generalize w1.heap.size = gc at *
  obtain ⟨a0, a1, a2, _, _, _, a6⟩ := K2.out.three6
  -- Eval
  have X := (Below.refl w2.heap.size w2).alloc (Nat.le_refl _) (.cells #[.bool true, .bool true] 4)
  have E3 := Lib.hid (x_eval AG AO cG cO _ w2.heap.size (C2.out.later X) (Blk.new w2 4 #[.bool true, .bool true]))
  have X := Lib.hid X
  go_upto_region 3 with (go_at_call 8; (with_reducible refine E3.out.mono ?_); rintro e w3 ⟨Av, cv, rfl, hr, hb⟩; have Z := Lib.hid (X.out.trans (hb.mono X.out.size)); have V3 := Lib.hid hr; clear hb hr)
  have K3 := Lib.hid (K2.out.below Z.out K2.out.lt)
  have C3 := Lib.hid (C2.out.later Z.out)
  have B3 := Lib.hid (B2.out.trans (Z.out.mono B2.out.size))
  clear X Z E3 K2 C2 B2 a0 a1 a2 a6
  obtain ⟨a0, a1, a2, _, _, _, a6⟩ := K3.out.three6
  -- Words
  have X := (Below.refl w3.heap.size w3).alloc (Nat.le_refl _) (.cells #[.int .u64 12, .int .u64 10] 36)
  have E4 := Lib.hid (x_words AG AO cG cO _ w3.heap.size (C3.out.later X) (Blk.new w3 36 #[.int .u64 12, .int .u64 10]))
  have X := Lib.hid X
  go_upto_region 4 with (go_at_call 9; (with_reducible refine E4.out.mono ?_); rintro e w4 ⟨gw, cw, rfl, hr, hb⟩; have Z := Lib.hid (X.out.trans (hb.mono X.out.size)); have W4 := Lib.hid hr; clear hb hr)
  have K4 := Lib.hid (K3.out.below Z.out K3.out.lt)
  have C4 := Lib.hid (C3.out.later Z.out)
  have V4 := Lib.hid ((V3.out.below Z.out).more Z.out.size)
  have B4 := Lib.hid (B3.out.trans (Z.out.mono B3.out.size))
  clear X Z E4 K3 C3 B3 V3 a0 a1 a2 a6
  obtain ⟨a0, a1, a2, _, _, _, a6⟩ := K4.out.three6
  -- Join
  have E5 := Lib.hid (x_join AG AO cG cO w4 C4.out)
  go_upto_region 5 with (go_at_call 10; (with_reducible refine E5.out.mono ?_); rintro e w5 ⟨XG, XO, dG, dO, rfl, hj, hb⟩; have Z := Lib.hid hb; have J5 := Lib.hid hj; clear hb hj)
  have Y := (Below.refl w5.heap.size w5).alloc (Nat.le_refl _) (.cells #[.int .i64 2, .slice XG 4 dG, .slice XO 2 dO] 25)
  have L6 := Lib.hid (Blk.new w5 25 #[.int .i64 2, .slice XG 4 dG, .slice XO 2 dO])
  have J6 := Lib.hid (J5.out.later Y)
  have Z6 := Z.out.trans (Y.mono Z.out.size)
  have K6 := Lib.hid (K4.out.below Z6 K4.out.lt)
  have C6 := Lib.hid (C4.out.later Z6)
  have V6 := Lib.hid ((V4.out.below Z6).more Z6.size)
  have W6 := Lib.hid ((W4.out.below Z6).more Z6.size)
  have B6 := Lib.hid (B4.out.trans (Z6.mono B4.out.size))
  clear Y Z Z6 J5 E5 K4 C4 B4 V4 W4 a0 a1 a2 a6
  generalize w5.alloc (.cells #[.int .i64 2, .slice XG 4 dG, .slice XO 2 dO] 25) = w6 at *
  generalize w5.heap.size = gj at *
  obtain ⟨b0, b1, b2, _, _, _, b6⟩ := L6.out.three6
  -- Eval of the joined one
  have X := (Below.refl w6.heap.size w6).alloc (Nat.le_refl _) (.cells #[.bool true, .bool true] 4)
  have E7 := Lib.hid (x_evalj XG XO dG dO _ w6.heap.size (J6.out.later X) (Blk.new w6 4 #[.bool true, .bool true]))
  have X := Lib.hid X
  go_upto_region 6 with (go_at_call 8; (with_reducible refine E7.out.mono ?_); rintro e w7 ⟨Ax, cx, rfl, hr, hb⟩; have Z := Lib.hid (X.out.trans (hb.mono X.out.size)); have Y7 := Lib.hid hr; clear hb hr)
  have K7 := Lib.hid (K6.out.below Z.out K6.out.lt)
  have L7 := Lib.hid (L6.out.below Z.out L6.out.lt)
  have C7 := Lib.hid (C6.out.later Z.out)
  have J7 := Lib.hid (J6.out.later Z.out)
  have V7 := Lib.hid ((V6.out.below Z.out).more Z.out.size)
  have W7 := Lib.hid ((W6.out.below Z.out).more Z.out.size)
  have B7 := Lib.hid (B6.out.trans (Z.out.mono B6.out.size))
  clear X Z E7 K6 L6 C6 J6 V6 W6 B6 b0 b1 b2 b6
  obtain ⟨a0, a1, a2, _, _, _, a6⟩ := K7.out.three6
  -- Eval of too few values
  have E8 := Lib.hid (x_evaln AG AO cG cO w7 C7.out)
  go_upto_region 7 with (go_at_call 8; (with_reducible refine E8.out.mono ?_); rintro e w8 ⟨rfl, hb⟩; have Z := Lib.hid hb; clear hb)
  have K8 := Lib.hid (K7.out.below Z.out K7.out.lt)
  have L8 := Lib.hid (L7.out.below Z.out L7.out.lt)
  have C8 := Lib.hid (C7.out.later Z.out)
  have J8 := Lib.hid (J7.out.later Z.out)
  have V8 := Lib.hid ((V7.out.below Z.out).more Z.out.size)
  have W8 := Lib.hid ((W7.out.below Z.out).more Z.out.size)
  have Y8 := Lib.hid ((Y7.out.below Z.out).more Z.out.size)
  have B8 := Lib.hid (B7.out.trans (Z.out.mono B7.out.size))
  clear Z E8 K7 L7 C7 J7 V7 W7 Y7 B7 a0 a1 a2 a6
  have KP := Lib.hid (fun W (hb : Below w8.heap.size w8 W) => show W.cell? ⟨gc, 0, none⟩ = some (.int .i64 2) ∧ W.cell? ⟨gc, 1, none⟩ = some (.slice AG 2 cG) ∧ W.cell? ⟨gc, 2, none⟩ = some (.slice AO 2 cO) ∧ W.cell? ⟨gj, 0, none⟩ = some (.int .i64 2) ∧ W.cell? ⟨gj, 1, none⟩ = some (.slice XG 4 dG) ∧ W.cell? ⟨gj, 2, none⟩ = some (.slice XO 2 dO) ∧ W.cell? ⟨gw, 0, none⟩ = some (.int .u64 6) ∧ W.cell? ⟨gw, 1, none⟩ = some (.int .u64 8) from by
    obtain ⟨k0, k1, k2, _, _, _, _⟩ := (K8.out.below hb K8.out.lt).three6
    obtain ⟨l0, l1, l2, _, _, _, _⟩ := (L8.out.below hb L8.out.lt).three6
    obtain ⟨ad0, e0, _, c0⟩ := ul_at (W8.out.below hb) (k := 0) (by decide)
    obtain ⟨ad1, e1, _, c1⟩ := ul_at (W8.out.below hb) (k := 1) (by decide)
    injection e0 with e0
    injection e1 with e1
    subst e0 e1
    rw [add0] at c0 c1
    exact ⟨k0, k1, k2, l0, l1, l2, c0, c1⟩)
  have Z0 := Lib.hid (show Below w8.heap.size w8 (w8.alloc (.cells #[.bool false, .bool true] 4)).drew from (Below.alloc' (Below.refl _ _) _).drew)
  have Q1 := Lib.hid (x_bools (w8.alloc (.cells #[.bool false, .bool true] 4)).drew Av cv w8.heap.size false true ((V8.out.below Z0.out).more Z0.out.size) (Blk.new w8 4 #[.bool false, .bool true]).drew)
  have S0 := KP.out w8 (Below.refl _ _)
  simp only [List.append_eq, List.cons_append, List.nil_append]
  go_region_held_law (fun W => W.cell? ⟨gc, 0, none⟩ = some (.int .i64 2) ∧ W.cell? ⟨gc, 1, none⟩ = some (.slice AG 2 cG) ∧ W.cell? ⟨gc, 2, none⟩ = some (.slice AO 2 cO) ∧ W.cell? ⟨gj, 0, none⟩ = some (.int .i64 2) ∧ W.cell? ⟨gj, 1, none⟩ = some (.slice XG 4 dG) ∧ W.cell? ⟨gj, 2, none⟩ = some (.slice XO 2 dO) ∧ W.cell? ⟨gw, 0, none⟩ = some (.int .u64 6) ∧ W.cell? ⟨gw, 1, none⟩ = some (.int .u64 8))
    (first | exact KP.out _ (Below.refl _ _).drew | exact KP.out _ Z0.out | exact KP.out _ (Below.alloc' Z0.out _) | exact KP.out _ Z9.out | exact KP.out _ (Below.alloc' Z9.out _) | exact KP.out _ Z10.out | exact KP.out _ (Below.alloc' Z10.out _) | exact KP.out _ Z11.out | exact KP.out _ (Below.alloc' Z11.out _) | exact KP.out _ Z12.out | exact KP.out _ (Below.alloc' Z12.out _) | exact KP.out _ Z13.out | exact KP.out _ (Below.alloc' Z13.out _) | exact KP.out _ Z14.out | exact KP.out _ (Below.alloc' Z14.out _) | exact KP.out _ Z15.out | exact KP.out _ (Below.alloc' Z15.out _) | exact KP.out _ Z16.out | exact KP.out _ (Below.alloc' Z16.out _) | exact KP.out _ Z17.out | exact KP.out _ (Below.alloc' Z17.out _) | go_keep)
    (first
    | (go_at_call 5; (with_reducible refine (x_diff AG AO XG XO cG cO dG dO w16 (C8.out.later Z16.out) (J8.out.later Z16.out)).mono ?_); rintro e w17 ⟨rfl, hb⟩; have Z17 := Lib.hid (Z16.out.trans (hb.mono Z16.out.size)); clear hb)
    | (go_at_call 5; (with_reducible refine (x_same AG AO cG cO w15 AG2 AO2 cG2 cO2 (C8.out.later Z15.out) C15.out).mono ?_); rintro e w16 ⟨rfl, hb⟩; have Z16 := Lib.hid (Z15.out.trans (hb.mono Z15.out.size)); clear hb)
    | (go_at_call 7; (with_reducible refine (AD.out w14).mono ?_); rintro e w15 ⟨AG2, cG2, AO2, cO2, rfl, hc, hb⟩; have Z15 := Lib.hid (Z14.out.trans (hb.mono Z14.out.size)); have C15 := Lib.hid hc; clear hb)
    | (go_at_call 13; (with_reducible refine (x_bad (w13.alloc (.cells #[.int .i64 2, .int .i64 0, .int .i64 0] 43)) w13.heap.size (Blk.new w13 43 #[.int .i64 2, .int .i64 0, .int .i64 0])).mono ?_); rintro e w14 ⟨rfl, hb⟩; have Z14 := Lib.hid ((Below.alloc' Z13.out (.cells #[.int .i64 2, .int .i64 0, .int .i64 0] 43)).trans (hb.mono (Below.alloc' Z13.out (.cells #[.int .i64 2, .int .i64 0, .int .i64 0] 43)).size)); clear hb)
    | (go_at_call 13; (with_reducible refine (x_right AG AO cG cO w12 (C8.out.later Z12.out)).mono ?_); rintro e w13 ⟨rfl, hb⟩; have Z13 := Lib.hid (Z12.out.trans (hb.mono Z12.out.size)); clear hb)
    | (go_at_call 12; (with_reducible refine (x_depthj XG XO dG dO w11 (J8.out.later Z11.out)).mono ?_); rintro e w12 ⟨rfl, hb⟩; have Z12 := Lib.hid (Z11.out.trans (hb.mono Z11.out.size)); clear hb)
    | (go_at_call 12; (with_reducible refine (x_depth AG AO cG cO w10 (C8.out.later Z10.out)).mono ?_); rintro e w11 ⟨rfl, hb⟩; have Z11 := Lib.hid (Z10.out.trans (hb.mono Z10.out.size)); clear hb)
    | (go_at_call 11; (with_reducible refine (x_bools (w9.alloc (.cells #[.bool true, .bool false] 4)) Ax cx w9.heap.size true false ((Y8.out.below (Below.alloc' Z9.out (.cells #[.bool true, .bool false] 4))).more (Below.alloc' Z9.out (.cells #[.bool true, .bool false] 4)).size) (Blk.new w9 4 #[.bool true, .bool false])).mono ?_); rintro e w10 ⟨rfl, hb⟩; have Z10 := Lib.hid ((Below.alloc' Z9.out (.cells #[.bool true, .bool false] 4)).trans (hb.mono (Below.alloc' Z9.out (.cells #[.bool true, .bool false] 4)).size)); clear hb)
    | (go_at_call 11; (with_reducible refine (Q1.out).mono ?_); rintro e w9 ⟨rfl, hb⟩; have Z9 := Lib.hid (Z0.out.trans (hb.mono Z0.out.size)); clear hb))
  all_goals go_wp2
  all_goals go_ret
  all_goals exact ⟨rfl, B8.out.trans (Z17.out.mono B8.out.size)⟩
end Go.Proofs.Ytfoheeijdaknnaa
