/- The walks at the zero tree, and of Run at a negative number. -/
/- The walks of History at the empty pattern and its closure. -/
import Derived.Test.YtaicehkphokacaaMbh
import Derived.Test.YtaicehkphokacaaMbi
import Derived.Test.YtaicehkphokacaaMaq
namespace Go.Proofs.Ytaicehkphokacaa
open Go.RowKit

set_option maxRecDepth 100000 in
set_option maxHeartbeats 4000000 in
theorem examine_z (w : World) : Calls Try.prog 28 #[.agg #[.int .i64 0, .slice none 0 0, .slice none 0 0], .slice none 0 0] w fun e w' => e = .returned (.int .i64 11) ∧ Below w.heap.size w w' := by
  have QU := Lib.hid (fun w' => quiet_z w')
  have K1 := Blk.new w 25 #[.int .i64 0, .slice none 0 0, .slice none 0 0]
  have B1 := Lib.hid ((Below.refl w.heap.size w).alloc (Nat.le_refl _) (.cells #[.int .i64 0, .slice none 0 0, .slice none 0 0] 25))
  go_enter Try.func28, Try.ntmps28
  go_upto_region 1 with (fail)
  generalize w.alloc (.cells #[.int .i64 0, .slice none 0 0, .slice none 0 0] 25) = w1 at *
  obtain ⟨t0, t1, t2, _, _, _, t3⟩ := K1.three6
  go_wp2_with (go_at_call 47; (with_reducible refine (QU.out _).mono ?_); rintro e w2 ⟨rfl, hb⟩; have B2 := Lib.hid (B1.out.trans (hb.mono B1.out.size)); clear hb)
  go_ret
  exact ⟨rfl, B2.out⟩
set_option maxRecDepth 100000 in
set_option maxHeartbeats 4000000 in
theorem step_z (w : World) : Calls Try.prog 11 #[.agg #[.int .i64 0, .slice none 0 0, .slice none 0 0], .slice none 0 0] w fun e w' => e = .returned (.tuple #[.slice none 0 0, .int .i64 11]) ∧ Below w.heap.size w w' := by
  have EX := Lib.hid (fun w' => examine_z w')
  have K1 := Blk.new w 25 #[.int .i64 0, .slice none 0 0, .slice none 0 0]
  have B1 := Lib.hid ((Below.refl w.heap.size w).alloc (Nat.le_refl _) (.cells #[.int .i64 0, .slice none 0 0, .slice none 0 0] 25))
  go_enter Try.func11, Try.ntmps11
  go_upto_region 1 with (fail)
  generalize w.alloc (.cells #[.int .i64 0, .slice none 0 0, .slice none 0 0] 25) = w1 at *
  obtain ⟨t0, t1, t2, _, _, _, t3⟩ := K1.three6
  go_wp2_with (go_at_call 28; (with_reducible refine (EX.out _).mono ?_); rintro e w2 ⟨rfl, hb⟩; have B2 := Lib.hid (B1.out.trans (hb.mono B1.out.size)); clear hb)
  (try go_ret2)
  exact ⟨rfl, B2.out⟩
section
variable (G : FuncId) (cb : Array Value) (AH AN : Option Addr) (cH cN : Nat) (T : Tr) (w : World)
set_option maxRecDepth 100000 in
set_option maxHeartbeats 4000000 in
theorem evolve_neg (h : TS w AH AN T) (ht : Rt T) (hq : gT T (List.replicate T.n 0) = 0) :
    Calls Try.prog 41 #[.agg #[.int .i64 T.st, .slice AH T.n cH, .slice AN T.m cN], .slice none 0 0, .int .i64 (-1), .func (.func G) #[] cb] w fun e w' => e = .returned (.int .i64 2) ∧ Below w.heap.size w w' := by
  have hs1 := ht.s1
  have EX := Lib.hid (fun W (hb : Below w.heap.size w W) => show Calls Try.prog 28 #[.agg #[.int .i64 T.st, .slice AH T.n cH, .slice AN T.m cN], .slice none 0 0] W fun e W' => e = .returned (.int .i64 0) ∧ Below W.heap.size W W' from by
    have q := dexamine_any AH AN none cH cN 0 0 T [] W (h.later hb) ht hq (fun h => absurd h (Nat.lt_irrefl _)) rfl (Nat.zero_le _) ok_p0
    unfold exE at q
    rw [if_pos (show tpS [] < T.st from by show (0 : Int) < T.st; omega)] at q
    exact q)
  clear h ht hq hs1
  obtain ⟨st, nh, f, m, lv, nx⟩ := T
  simp only at *
  have K1 := Blk.new w 25 #[.int .i64 st, .slice AH nh cH, .slice AN m cN]
  have B1 := Lib.hid ((Below.refl w.heap.size w).alloc (Nat.le_refl _) (.cells #[.int .i64 st, .slice AH nh cH, .slice AN m cN] 25))
  go_enter Try.func41, Try.ntmps41
  go_upto_region 1 with (fail)
  generalize w.alloc (.cells #[.int .i64 st, .slice AH nh cH, .slice AN m cN] 25) = w1 at *
  obtain ⟨t0, t1, t2, _, _, _, t3⟩ := K1.three6
  go_wp2_with (go_at_call 28; (with_reducible refine (EX.out _ B1.out).mono ?_); rintro e w2 ⟨rfl, hb⟩; have B2 := Lib.hid (B1.out.trans (hb.mono B1.out.size)); clear hb)
  go_ret
  exact ⟨rfl, B2.out⟩
set_option maxRecDepth 100000 in
set_option maxHeartbeats 4000000 in
theorem run_neg (h : TS w AH AN T) (ht : Rt T) (hq : gT T (List.replicate T.n 0) = 0) :
    Calls Try.prog 24 #[.agg #[.int .i64 T.st, .slice AH T.n cH, .slice AN T.m cN], .slice none 0 0, .int .i64 (-1)] w fun e w' => e = .returned (.tuple #[.slice none 0 0, .int .i64 2]) ∧ Below w.heap.size w w' := by
  obtain ⟨w2, hw⟩ : ∃ w2, w2 = (w.alloc (.cells #[.int .i64 T.st, .slice AH T.n cH, .slice AN T.m cN] 25)).alloc (.cells #[.slice none 0 0] 27) := ⟨_, rfl⟩
  have K1 : Blk w2 w.heap.size 25 #[.int .i64 T.st, .slice AH T.n cH, .slice AN T.m cN] := by rw [hw]; exact (Blk.new w _ _).alloc _
  have B2 : Below w.heap.size w w2 := by rw [hw]; exact ((Below.refl _ w).alloc (Nat.le_refl _) _).alloc (by simp) _
  have EV := Lib.hid (evolve_neg 42 #[.pointer (some ⟨w.heap.size + 1, 0, none⟩)] AH AN cH cN T w2 (h.later B2) ht hq)
  have B2 := Lib.hid B2
  clear h ht hq
  obtain ⟨st, nh, f, m, lv, nx⟩ := T
  simp only at *
  go_enter Try.func24, Try.ntmps24
  go_upto_region 2 with (fail)
  rw [← hw]
  obtain ⟨t0, t1, t2, _, _, _, t3⟩ := K1.three6
  clear hw
  go_wp2_with (go_at_call 41; (with_reducible refine (EV.out).mono ?_); rintro e w3 ⟨rfl, hb⟩; have B3 := Lib.hid (B2.out.trans (hb.mono B2.out.size)); clear hb)
  (try go_ret2)
  exact ⟨rfl, B3.out⟩
end
end Go.Proofs.Ytaicehkphokacaa
namespace Go.Proofs.Ytaicehkphokacaa
open Go.RowKit

theorem info_patL : (Try.prog.info? 27).map (fun i => (i.zero, i.size, i.bytes)) = some (some (.slice none 0 0), 1, 24) := by kernel_rfl
/-- the generations in their block -/
def RH (D : Nat) (k : Nat) (S : Nat → Prop) (W : World) : Prop :=
  ∃ Y c xs, S = (fun j => j = D ∨ ob Y j) ∧ Blk W D 54 #[.slice Y k c] ∧ W.ownsRow (D + 1) 27 1 (.slice Y k c) k xs
set_option maxRecDepth 100000 in
set_option maxHeartbeats 4000000 in
theorem hist1_any (D l c k : Nat) (X : Option Addr) (S : Nat → Prop) (W : World) (h : RH D k S W) (hk : k ≤ 10001) :
    Calls Try.prog 43 #[.slice X l c, .pointer (some ⟨D, 0, none⟩)] W fun e W' => e = .returned (.tuple #[]) ∧ ∃ S', RH D (k + 1) S' W' ∧ Fr S W S' W' := by
  obtain ⟨ip, hip, hz0, hz1, hz2⟩ := info_parts info_patL
  obtain ⟨Y, d, xs, rfl, hb, ho⟩ := h
  have c0 : W.cell? ⟨D, 0, none⟩ = some (.slice Y k d) := hb.cell 0
  have HB := Lib.hid hb
  have HO := Lib.hid ho
  have l0 := hb.lt
  clear hb ho
  go_enter Try.func43, Try.ntmps43
  go_wp2_with (at_builtin; refine wpList_append1F rfl _ _ 54 rfl (D + 1) 27 ip (.slice none 0 0) 24 Try.underlying54 hip hz0 hz1 hz2 rfl Y k d _ rfl HO.out (.slice X l c) rfl rfl (by unfold maxLen; omega) (by omega) (by omega) ?_; intro g' c2 w3 hown hfr; have OW := Lib.hid hown; have FR := Lib.hid hfr; have B3 := Lib.hid (hfr.blk HB.out (fun hk => by have := (ob_ge HO.out D hk).1; omega)); have f0 := B3.out.frozen 0; have c1 := B3.out.cell 0; have l1 := B3.out.lt; clear hown hfr)
  go_end0
  have hne : D + 1 ≤ g' := (ob_ge OW.out g' rfl).1
  have hn2 : (Value.slice (some ⟨g', 0, none⟩) (k + 1) c2).ownBlock ≠ some D := fun e => by have := (OW.out.lt D e).1; omega
  refine ⟨rfl, _, ⟨some ⟨g', 0, none⟩, c2, _, rfl, by simpa using B3.out.set_ 0 (.slice (some ⟨g', 0, none⟩) (k + 1) c2), own_set (p := ⟨D, 0, none⟩) OW.out hn2 _⟩, ?_⟩
  have f1 : Fr (fun j => j = D ∨ ob Y j) W (fun j => j = D ∨ ob (some ⟨g', 0, none⟩) j) w3 := FR.out.weak (fun k hk => .inr hk) (fun k hk => by
    rcases hk with rfl | hk
    · exact .inl (.inl rfl)
    · rcases FR.out.new k hk with h1 | h1
      · exact .inl (.inr h1)
      · exact .inr h1)
  exact f1.trans (Fr.set_ w3 (p := ⟨D, 0, none⟩) _ (.inl rfl))
section
variable (AH AN : Option Addr) (cH cN n : Nat) (T : Tr) (w : World)
set_option maxRecDepth 100000 in
set_option maxHeartbeats 8000000 in
theorem history_nil (hn : n ≤ 10000) (h : TS w AH AN T) (ht : Rt T) (hq : gT T (List.replicate T.n 0) = 0) (h0 : nxt (gT T) (offL T) [] = []) :
    Calls Try.prog 25 #[.agg #[.int .i64 T.st, .slice AH T.n cH, .slice AN T.m cN], .slice none 0 0, .int .i64 (n : Int)] w fun e w' => ∃ Y c, e = .returned (.tuple #[.slice Y (n + 1) c, .int .i64 0]) ∧ Below w.heap.size w w' := by
  obtain ⟨w2, hw⟩ : ∃ w2, w2 = (w.alloc (.cells #[.int .i64 T.st, .slice AH T.n cH, .slice AN T.m cN] 25)).alloc (.cells #[.slice none 0 0] 54) := ⟨_, rfl⟩
  have K1 : Blk w2 w.heap.size 25 #[.int .i64 T.st, .slice AH T.n cH, .slice AN T.m cN] := by rw [hw]; exact (Blk.new w _ _).alloc _
  have K2 : Blk w2 (w.heap.size + 1) 54 #[.slice none 0 0] := by
    have := Blk.new (w.alloc (.cells #[.int .i64 T.st, .slice AH T.n cH, .slice AN T.m cN] 25)) 54 #[.slice none 0 0]
    rw [World.size_alloc] at this
    rw [hw]; exact this
  have B2 : Below w.heap.size w w2 := by rw [hw]; exact ((Below.refl _ w).alloc (Nat.le_refl _) _).alloc (by simp) _
  have hsz : w2.heap.size = w.heap.size + 2 := by rw [hw]; simp
  have hs1 := ht.s1
  have EV := Lib.hid (evolve_any 43 #[.pointer (some ⟨w.heap.size + 1, 0, none⟩)] AH AN none cH cN 0 n (w.heap.size + 1) T (fun _ => []) (fun k S W => RH (w.heap.size + 1) k S W ∧ k ≤ n + 1) (fun j => j = w.heap.size + 1 ∨ ob none j) w2 (enters_of Try.func43 (by kernel_rfl) rfl)
    (fun k S W W' ⟨⟨Y, c, xs, h1, h2, h3⟩, h4⟩ hb => ⟨⟨Y, c, xs, h1, h2.below hb h2.lt, own_belowk h3 hb⟩, h4⟩)
    (fun k j S S' W W' A hj _ hf hr => fun h => absurd h (Nat.lt_irrefl _))
    (fun k S W X c hk ⟨h1, h2⟩ hr => (hist1_any (w.heap.size + 1) 0 c k X S W h1 (by omega)).mono fun e W' ⟨q1, S', q2, q3⟩ => ⟨q1, S', ⟨q2, by omega⟩, q3⟩)
    hn (by omega) (fun k hk => by
      rcases hk with rfl | hk
      · omega
      · cases hk) ⟨⟨none, 0, [], rfl, K2, World.ownsRow_nil _ _ _ _⟩, Nat.zero_le _⟩
    (fun W hb => h.later (B2.trans (hb.mono (by omega)))) ht hq (fun h => absurd h (Nat.lt_irrefl _)) (fun k hk => ⟨ok_p0, Nat.zero_le _, by show (0 : Int) < T.st; omega⟩) (fun k hk => by rw [h0]; exact ⟨vld_p0, Nat.zero_le _, rfl⟩))
  have HF := Lib.hid (fun (W : World) (S' : Nat → Prop) (hf : Fr (fun j => j = w.heap.size + 1 ∨ ob none j) w2 S' W) => (show Below w.heap.size w W from B2.trans (hf.below (B := w.heap.size) (fun k hk => by
    rcases hk with rfl | hk
    · omega
    · cases hk) (by omega))))
  clear h ht hq B2 h0 hs1
  obtain ⟨st, nh, f, m, lv, nx⟩ := T
  simp only [List.length_nil] at *
  go_enter Try.func25, Try.ntmps25
  go_upto_region 2 with (fail)
  rw [← hw]
  obtain ⟨t0, t1, t2, _, _, _, t3⟩ := K1.three6
  clear hw K1 K2
  go_upto_region 3 with (go_at_call 41; (with_reducible refine (EV.out).mono ?_); rintro e w3 ⟨rfl, S', hr, hf⟩; have R3 := Lib.hid hr; have B3 := Lib.hid (HF.out _ _ hf); clear hr hf)
  obtain ⟨⟨Y, c, xs, _, hx, _⟩, _⟩ := R3.out
  have c0 : w3.cell? ⟨w.heap.size + 1, 0, none⟩ = some (.slice Y (n + 1) c) := hx.cell 0
  clear hx t0 t1 t2 t3
  go_wp2
  (try go_ret2)
  exact ⟨Y, c, rfl, B3.out⟩
end
end Go.Proofs.Ytaicehkphokacaa
