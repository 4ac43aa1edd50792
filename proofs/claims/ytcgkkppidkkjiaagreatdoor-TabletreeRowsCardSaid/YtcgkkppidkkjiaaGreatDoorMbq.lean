/- The walk of rowsOf at the reduced trees of the examples; Reduce at them. -/
/- The walk of Table at the trees of the examples. -/
import Derived.Test.YtcgkkppidkkjiaaGreatDoorMbj
import Derived.Test.YtcgkkppidkkjiaaGreatDoorMbm
import Derived.Test.YtcgkkppidkkjiaaGreatDoorMbe
import Derived.Test.YtcgkkppidkkjiaaGreatDoorMad
import Derived.Test.YtcgkkppidkkjiaaGreatDoorMbg
namespace Go.Proofs.YtcgkkppidkkjiaaGreatDoor
open Go.RowKit
attribute [local go_sem] run_store_fn

/-- the nodes of the reduced trees -/
def o1 : List (Int × List Int) := [(1, [0, 0]), (1, [1, 1]), (2, [0, 1]), (3, [2, 2])]
def o2 : List (Int × List Int) := [(1, [0, 0]), (2, [0, 0]), (3, [1, 1])]
def T1 : Tr := trOR 2 3 lnf o1
def T2 : Tr := trOR 2 3 lnf o2
theorem px_lnf : px lnf 3 (0, 0) = 1 := by decide +kernel
theorem red1 (AH AN : Option Addr) (cH cN : Nat) (w : World) (h : TS w AH AN (TRd lnf)) : Calls Tryz.prog 34 #[.agg #[.int .i64 2, .slice AH 3 cH, .slice AN 4 cN]] w fun e w' => ∃ AI cI AN' cN', e = .returned (.agg #[.int .i64 2, .slice AI 3 cI, .slice AN' 4 cN']) ∧ TS w' AI AN' T1 ∧ Below w.heap.size w w' :=
  reduce_any (sn := 2) (T := TRd lnf) (nums := [2, 3, 4, 5]) (L := [⟨1, [0, 0, 0, 0, 0, 0, 0, 0]⟩, ⟨1, [1, 1, 0, 0, 0, 0, 0, 0]⟩, ⟨2, [2, 3, 0, 0, 0, 0, 0, 0]⟩, ⟨3, [4, 4, 0, 0, 0, 0, 0, 0]⟩]) (r := 3) (S' := ⟨(), [(5, 3), (4, 2), (3, 1), (2, 0)], o1⟩) rfl h rtt_read (by kernel_rfl) (by decide) (by kernel_rfl)
theorem red2 (AH AN : Option Addr) (cH cN : Nat) (w : World) (h : TS w AH AN (TCn 2 3 lnf 0)) : Calls Tryz.prog 34 #[.agg #[.int .i64 2, .slice AH 3 cH, .slice AN 3 cN]] w fun e w' => ∃ AI cI AN' cN', e = .returned (.agg #[.int .i64 2, .slice AI 3 cI, .slice AN' 3 cN']) ∧ TS w' AI AN' T2 ∧ Below w.heap.size w w' :=
  reduce_any (sn := 2) (T := TCn 2 3 lnf 0) (nums := [2, 3, 4]) (L := [⟨1, [0, 0, 0, 0, 0, 0, 0, 0]⟩, ⟨2, [2, 2, 0, 0, 0, 0, 0, 0]⟩, ⟨3, [3, 3, 0, 0, 0, 0, 0, 0]⟩]) (r := 2) (S' := ⟨(), [(4, 2), (3, 1), (2, 0)], o2⟩) rfl h rtt_con (by kernel_rfl) (by decide) (by kernel_rfl)
section
variable {b0 b1 b3 b4 b5 Bi : Nat} {AH AN : Option Addr} {cH cN : Nat} {lv : Nat → Int}
theorem same_kept {m : Nat} {nx : Nat → List Int} (k : Nat) (hk : k < 3) (ins : List Int) (i : Nat) (hi : i < m) (a : Int) (hn : nx i = [a, a]) (HC : WC b0 b1 b3 b4 b5 Bi AH AN cH m cN lv nx (k + 1) (ins ++ [-1 - (k : Int)]) a (KeptR Bi (k + 1) (ins ++ [-1 - (k : Int)]))) : WC b0 b1 b3 b4 b5 Bi AH AN cH m cN lv nx k ins (i : Int) (KeptR Bi k ins) :=
  wk_same k hk ins i hi a hn HC (fun w A c w1 A1 c1 w' _ ho hf hp h1 hD => kept_next ho hf hp h1 hD)
theorem same_new {m : Nat} {nx : Nat → List Int} {l : List Int} (k : Nat) (hk : k < 3) (ins : List Int) (i : Nat) (hi : i < m) (a : Int) (hn : nx i = [a, a]) (HC : WC b0 b1 b3 b4 b5 Bi AH AN cH m cN lv nx (k + 1) (ins ++ [-1 - (k : Int)]) a (NewR b0 b3 Bi l)) : WC b0 b1 b3 b4 b5 Bi AH AN cH m cN lv nx k ins (i : Int) (NewR b0 b3 Bi l) :=
  wk_same k hk ins i hi a hn HC (fun w A c w1 A1 c1 w' hw ho hf hp h1 hD => ⟨hD.1, (hf.below (B := b0) (fun b hb => by have := ob_ge ho b hb; have := hw.lo; omega) (by have := hw.hi; have := hw.lo; omega)).trans (hD.2)⟩)
theorem way1 : WC b0 b1 b3 b4 b5 Bi AH AN cH 4 cN lv T1.nx 0 [] 3 (KeptR Bi 0 []) :=
  same_kept 0 (by decide) [] 3 (by decide) 2 (by decide)
    (wk_both 1 (by decide) [-1] 2 (by decide) 0 1 (by decide) (by decide)
      (same_kept 2 (by decide) [-1, 0] 0 (by decide) 0 (by decide) (wk_leaf [-1, 0, -3] 0 (by decide)))
      (same_kept 2 (by decide) [-1, 1] 1 (by decide) 1 (by decide) (wk_leaf [-1, 1, -3] 1 (by decide))))
theorem way2 : WC b0 b1 b3 b4 b5 Bi AH AN cH 3 cN lv T2.nx 0 [] 2 (NewR b0 b3 Bi [-1, -2, -3]) :=
  same_new 0 (by decide) [] 2 (by decide) 1 (by decide)
    (same_new 1 (by decide) [-1] 1 (by decide) 0 (by decide)
      (same_new 2 (by decide) [-1, -2] 0 (by decide) 0 (by decide) (wk_new [-1, -2, -3] (by decide))))
end
set_option maxRecDepth 100000 in
set_option maxHeartbeats 4000000 in
theorem rows1 (AH : Option Addr) (cH : Nat) (AN : Option Addr) (cN : Nat) (w : World) (h : TS w AH AN T1) :
    Calls Tryz.prog 33 #[.agg #[.int .i64 2, .slice AH 3 cH, .slice AN 4 cN]] w fun e w' => e = .returned (.slice none 0 0) ∧ Below w.heap.size w w' := by
  have IX := Lib.hid (show ∀ W, Below w.heap.size w W → Calls Tryz.prog 46 #[.slice AH 3 cH, .agg #[.int .i64 0, .int .i64 0]] W fun e W' => e = .returned (.int .i64 1) ∧ Below W.heap.size W W' from fun W hb => (pindex_any AH 3 cH lnf 0 0 W (h.1.later hb) (by omega)).mono fun e W' ⟨he, hx⟩ => ⟨by rw [he, px_lnf], hx⟩)
  have NN := Lib.hid h.2
  clear h
  have K0 := (Blk.new w 32 #[.int .i64 2, .slice AH 3 cH, .slice AN 4 cN]).alloc (.cells #[.slice none 0 0] 24)
  have K1 := Blk.new (w.alloc (.cells #[.int .i64 2, .slice AH 3 cH, .slice AN 4 cN] 32)) 24 #[.slice none 0 0]
  rw [World.size_alloc] at K1
  have B0 := ((Below.refl w.heap.size w).alloc (Nat.le_refl _) (.cells #[.int .i64 2, .slice AH 3 cH, .slice AN 4 cN] 32)).alloc (by simp) (.cells #[.slice none 0 0] 24)
  go_enter Tryz.func33, Tryz.ntmps33
  go_upto_region 2 with (fail)
  generalize (w.alloc (.cells #[.int .i64 2, .slice AH 3 cH, .slice AN 4 cN] 32)).alloc (.cells #[.slice none 0 0] 24) = w0 at K0 K1 B0 ⊢
  obtain ⟨t0, t1, t2, t3⟩ := K0.three
  have K0 := Lib.hid K0
  have K1 := Lib.hid K1
  have B0 := Lib.hid B0
  go_upto_region 5 with (go_at_call 46; (with_reducible refine (IX.out _ B0.out).mono ?_); rintro e w2 ⟨rfl, hb⟩; have B2 := Lib.hid (B0.out.trans (hb.mono B0.out.size)); have K20 := Lib.hid (K0.out.below hb K0.out.lt); have K21 := Lib.hid (K1.out.below hb K1.out.lt); clear hb t0 t1 t2 t3)
  have hz2 := K21.out.lt
  have L0 := (K20.out.alloc (.cells #[.int .i64 1] 3)).alloc (.cells #[.func (.func 55) #[] #[.pointer (some ⟨w.heap.size + 1, 0, none⟩), .pointer (some ⟨w.heap.size, 0, none⟩), .pointer (some ⟨w2.heap.size, 0, none⟩), .pointer (some ⟨w2.heap.size + 1, 0, none⟩)]] 98)
  have L1 := (K21.out.alloc (.cells #[.int .i64 1] 3)).alloc (.cells #[.func (.func 55) #[] #[.pointer (some ⟨w.heap.size + 1, 0, none⟩), .pointer (some ⟨w.heap.size, 0, none⟩), .pointer (some ⟨w2.heap.size, 0, none⟩), .pointer (some ⟨w2.heap.size + 1, 0, none⟩)]] 98)
  have L2 := (Blk.new w2 3 #[.int .i64 1]).alloc (.cells #[.func (.func 55) #[] #[.pointer (some ⟨w.heap.size + 1, 0, none⟩), .pointer (some ⟨w.heap.size, 0, none⟩), .pointer (some ⟨w2.heap.size, 0, none⟩), .pointer (some ⟨w2.heap.size + 1, 0, none⟩)]] 98)
  have L3 := Blk.new (w2.alloc (.cells #[.int .i64 1] 3)) 98 #[.func (.func 55) #[] #[.pointer (some ⟨w.heap.size + 1, 0, none⟩), .pointer (some ⟨w.heap.size, 0, none⟩), .pointer (some ⟨w2.heap.size, 0, none⟩), .pointer (some ⟨w2.heap.size + 1, 0, none⟩)]]
  have B5 := (B2.out.alloc B2.out.size (.cells #[.int .i64 1] 3)).alloc (by have := B2.out.size; simp; omega) (.cells #[.func (.func 55) #[] #[.pointer (some ⟨w.heap.size + 1, 0, none⟩), .pointer (some ⟨w.heap.size, 0, none⟩), .pointer (some ⟨w2.heap.size, 0, none⟩), .pointer (some ⟨w2.heap.size + 1, 0, none⟩)]] 98)
  have hs5 : ((w2.alloc (.cells #[.int .i64 1] 3)).alloc (.cells #[.func (.func 55) #[] #[.pointer (some ⟨w.heap.size + 1, 0, none⟩), .pointer (some ⟨w.heap.size, 0, none⟩), .pointer (some ⟨w2.heap.size, 0, none⟩), .pointer (some ⟨w2.heap.size + 1, 0, none⟩)]] 98)).heap.size = w2.heap.size + 1 + 1 := by simp
  rw [World.size_alloc] at L3
  generalize (w2.alloc (.cells #[.int .i64 1] 3)).alloc (.cells #[.func (.func 55) #[] #[.pointer (some ⟨w.heap.size + 1, 0, none⟩), .pointer (some ⟨w.heap.size, 0, none⟩), .pointer (some ⟨w2.heap.size, 0, none⟩), .pointer (some ⟨w2.heap.size + 1, 0, none⟩)]] 98) = w5 at L0 L1 L2 L3 B5 hs5 ⊢
  have hE : WE w.heap.size w.heap.size (w.heap.size + 1) w2.heap.size (w2.heap.size + 1) (w2.heap.size + 1 + 1) AH AN cH 4 cN T1.lv T1.nx w5 := ⟨L0, L1, L2, L3, NN.out.below B5, by omega, by omega⟩
  have CC := Lib.hid (way1 (b0 := w.heap.size) (b1 := w.heap.size) (b3 := w.heap.size + 1) (b4 := w2.heap.size) (b5 := w2.heap.size + 1) (Bi := w2.heap.size + 1 + 1) (AH := AH) (AN := AN) (cH := cH) (cN := cN) (lv := T1.lv) w5 none 0 hE (World.ownsRow_nil _ _ _ _))
  have B5 := Lib.hid B5
  have HE := Lib.hid hE
  obtain ⟨c1, c2, c3, c4, c5⟩ := hE.cells
  clear hE L0 L1 L2 L3
  go_wp2_with ((with_reducible refine (CC.out).mono ?_); rintro e w6 ⟨⟨v, rfl⟩, hD, hK⟩; have B6 := Lib.hid (hD.1.below (B := w2.heap.size + 1 + 1) (fun b hb => by cases hb) (by omega)); have E6 := HE.out.below B6.out; obtain ⟨y1, y2, y3, y4, y5⟩ := E6.cells; clear hD hK)
  go_ret
  exact ⟨rfl, B5.out.trans (B6.out.mono (by have := B2.out.size; omega))⟩
set_option maxRecDepth 100000 in
set_option maxHeartbeats 4000000 in
theorem rows2 (AH : Option Addr) (cH : Nat) (AN : Option Addr) (cN : Nat) (w : World) (h : TS w AH AN T2) :
    Calls Tryz.prog 33 #[.agg #[.int .i64 2, .slice AH 3 cH, .slice AN 3 cN]] w fun e w' => ∃ g c' X xc, e = .returned (.slice (some ⟨g, 0, none⟩) 1 c') ∧ (w.heap.size ≤ g ∧ ∀ ad, X = some ad → w.heap.size ≤ ad.block) ∧ g < w'.heap.size ∧ w'.cell? ⟨g, 0, none⟩ = some (.slice X 3 xc) ∧ Reads w' w'.heap.size X 3 (il [-1, -2, -3]) ∧ w'.cell? ⟨g, 1, none⟩ = some (.int .i64 0) ∧ Below w.heap.size w w' := by
  have IX := Lib.hid (show ∀ W, Below w.heap.size w W → Calls Tryz.prog 46 #[.slice AH 3 cH, .agg #[.int .i64 0, .int .i64 0]] W fun e W' => e = .returned (.int .i64 1) ∧ Below W.heap.size W W' from fun W hb => (pindex_any AH 3 cH lnf 0 0 W (h.1.later hb) (by omega)).mono fun e W' ⟨he, hx⟩ => ⟨by rw [he, px_lnf], hx⟩)
  have NN := Lib.hid h.2
  clear h
  have K0 := (Blk.new w 32 #[.int .i64 2, .slice AH 3 cH, .slice AN 3 cN]).alloc (.cells #[.slice none 0 0] 24)
  have K1 := Blk.new (w.alloc (.cells #[.int .i64 2, .slice AH 3 cH, .slice AN 3 cN] 32)) 24 #[.slice none 0 0]
  rw [World.size_alloc] at K1
  have B0 := ((Below.refl w.heap.size w).alloc (Nat.le_refl _) (.cells #[.int .i64 2, .slice AH 3 cH, .slice AN 3 cN] 32)).alloc (by simp) (.cells #[.slice none 0 0] 24)
  go_enter Tryz.func33, Tryz.ntmps33
  go_upto_region 2 with (fail)
  generalize (w.alloc (.cells #[.int .i64 2, .slice AH 3 cH, .slice AN 3 cN] 32)).alloc (.cells #[.slice none 0 0] 24) = w0 at K0 K1 B0 ⊢
  obtain ⟨t0, t1, t2, t3⟩ := K0.three
  have K0 := Lib.hid K0
  have K1 := Lib.hid K1
  have B0 := Lib.hid B0
  go_upto_region 5 with (go_at_call 46; (with_reducible refine (IX.out _ B0.out).mono ?_); rintro e w2 ⟨rfl, hb⟩; have B2 := Lib.hid (B0.out.trans (hb.mono B0.out.size)); have K20 := Lib.hid (K0.out.below hb K0.out.lt); have K21 := Lib.hid (K1.out.below hb K1.out.lt); clear hb t0 t1 t2 t3)
  have hz2 := K21.out.lt
  have L0 := (K20.out.alloc (.cells #[.int .i64 1] 3)).alloc (.cells #[.func (.func 55) #[] #[.pointer (some ⟨w.heap.size + 1, 0, none⟩), .pointer (some ⟨w.heap.size, 0, none⟩), .pointer (some ⟨w2.heap.size, 0, none⟩), .pointer (some ⟨w2.heap.size + 1, 0, none⟩)]] 98)
  have L1 := (K21.out.alloc (.cells #[.int .i64 1] 3)).alloc (.cells #[.func (.func 55) #[] #[.pointer (some ⟨w.heap.size + 1, 0, none⟩), .pointer (some ⟨w.heap.size, 0, none⟩), .pointer (some ⟨w2.heap.size, 0, none⟩), .pointer (some ⟨w2.heap.size + 1, 0, none⟩)]] 98)
  have L2 := (Blk.new w2 3 #[.int .i64 1]).alloc (.cells #[.func (.func 55) #[] #[.pointer (some ⟨w.heap.size + 1, 0, none⟩), .pointer (some ⟨w.heap.size, 0, none⟩), .pointer (some ⟨w2.heap.size, 0, none⟩), .pointer (some ⟨w2.heap.size + 1, 0, none⟩)]] 98)
  have L3 := Blk.new (w2.alloc (.cells #[.int .i64 1] 3)) 98 #[.func (.func 55) #[] #[.pointer (some ⟨w.heap.size + 1, 0, none⟩), .pointer (some ⟨w.heap.size, 0, none⟩), .pointer (some ⟨w2.heap.size, 0, none⟩), .pointer (some ⟨w2.heap.size + 1, 0, none⟩)]]
  have B5 := (B2.out.alloc B2.out.size (.cells #[.int .i64 1] 3)).alloc (by have := B2.out.size; simp; omega) (.cells #[.func (.func 55) #[] #[.pointer (some ⟨w.heap.size + 1, 0, none⟩), .pointer (some ⟨w.heap.size, 0, none⟩), .pointer (some ⟨w2.heap.size, 0, none⟩), .pointer (some ⟨w2.heap.size + 1, 0, none⟩)]] 98)
  have hs5 : ((w2.alloc (.cells #[.int .i64 1] 3)).alloc (.cells #[.func (.func 55) #[] #[.pointer (some ⟨w.heap.size + 1, 0, none⟩), .pointer (some ⟨w.heap.size, 0, none⟩), .pointer (some ⟨w2.heap.size, 0, none⟩), .pointer (some ⟨w2.heap.size + 1, 0, none⟩)]] 98)).heap.size = w2.heap.size + 1 + 1 := by simp
  rw [World.size_alloc] at L3
  generalize (w2.alloc (.cells #[.int .i64 1] 3)).alloc (.cells #[.func (.func 55) #[] #[.pointer (some ⟨w.heap.size + 1, 0, none⟩), .pointer (some ⟨w.heap.size, 0, none⟩), .pointer (some ⟨w2.heap.size, 0, none⟩), .pointer (some ⟨w2.heap.size + 1, 0, none⟩)]] 98) = w5 at L0 L1 L2 L3 B5 hs5 ⊢
  have hE : WE w.heap.size w.heap.size (w.heap.size + 1) w2.heap.size (w2.heap.size + 1) (w2.heap.size + 1 + 1) AH AN cH 3 cN T2.lv T2.nx w5 := ⟨L0, L1, L2, L3, NN.out.below B5, by omega, by omega⟩
  have CC := Lib.hid (way2 (b0 := w.heap.size) (b1 := w.heap.size) (b3 := w.heap.size + 1) (b4 := w2.heap.size) (b5 := w2.heap.size + 1) (Bi := w2.heap.size + 1 + 1) (AH := AH) (AN := AN) (cH := cH) (cN := cN) (lv := T2.lv) w5 none 0 hE (World.ownsRow_nil _ _ _ _))
  have B5 := Lib.hid B5
  have HE := Lib.hid hE
  obtain ⟨c1, c2, c3, c4, c5⟩ := hE.cells
  clear hE L0 L1 L2 L3
  go_wp2_with ((with_reducible refine (CC.out).mono ?_); rintro e w6 ⟨⟨v, rfl⟩, hD, hK⟩; obtain ⟨⟨g, d, X, xc, y0, y1, y2, y3, y4, y5⟩, B6⟩ := hD; have B6 := Lib.hid B6; have Y0 := Lib.hid y0; clear y0 hK)
  go_ret
  exact ⟨g, d, X, xc, rfl, ⟨by have := Y0.out.1; have := B2.out.size; omega, fun ad e => by have := Y0.out.2 ad e; have := B2.out.size; omega⟩, y2, y3, y4, y5, B5.out.trans B6.out⟩
end Go.Proofs.YtcgkkppidkkjiaaGreatDoor
namespace Go.Proofs.YtcgkkppidkkjiaaGreatDoor
open Go.RowKit

theorem info_intsE : (Tryz.prog.info? 27).map (fun i => (i.zero, i.size, i.bytes)) = some (some (.slice none 0 0), 1, 24) := by kernel_rfl
/-- behind a call that turns nothing old, a value laid, and an append onto a row -/
theorem fr_app {wr wa w7 : World} {V : Option Addr} {j v gg : Nat} {o : Obj} (ha : Below wr.heap.size wr wa) (hg : (wa.alloc o).grownBy w7 (Value.slice V j v).ownBlock) (hat : (Value.slice V j v).ownBlock = some gg ∨ gg = wa.heap.size + 1) : Fr (ob V) wr (ob (some ⟨gg, 0, none⟩)) w7 := by
  have h1 := ha.size
  have h2 := hg.size
  rw [World.size_alloc] at h2
  refine ⟨hg.os.trans ha.os, hg.tape.trans ha.tape, hg.output.trans ha.output, by omega, fun k hk hn => ?_, fun k hk => ?_⟩
  · rw [hg.block k (by rw [World.size_alloc]; omega) (fun e => hn (ob_own.2 e.symm)), Below.heap_alloc _ _ k (by omega)]
    exact ha.block k hk
  · have e : gg = k := by simpa [ob, Value.ownBlock] using hk
    subst e
    rcases hat with h | h
    · exact .inl (ob_own.2 h)
    · right; omega
section
variable (T' : Tr) (m m' : Nat) (PR : Nat → Option Addr → Nat → Nat → World → Prop) (hPR : ∀ lo R nr c W W', PR lo R nr c W → W.heap.size ≤ W'.heap.size → (∀ k, lo ≤ k → k < W.heap.size → W'.heap[k]? = W.heap[k]?) → PR lo R nr c W')
include hPR
set_option maxRecDepth 100000 in
set_option maxHeartbeats 8000000 in
theorem table_ex (AH : Option Addr) (cH : Nat) (AN : Option Addr) (cN : Nat) (w : World) (hq : QReads w w.heap.size AH 3 lnf)
    (hT : ∀ W, Below w.heap.size w W → Calls Tryz.prog 32 #[.agg #[.int .i64 2, .slice AH 3 cH, .slice AN m cN]] W fun e W' => e = .returned (.bool true) ∧ Below W.heap.size W W')
    (hD : ∀ W, Below w.heap.size w W → Calls Tryz.prog 34 #[.agg #[.int .i64 2, .slice AH 3 cH, .slice AN m cN]] W fun e W' => ∃ AI cI AN' cN', e = .returned (.agg #[.int .i64 2, .slice AI 3 cI, .slice AN' m' cN']) ∧ TS W' AI AN' T' ∧ Below W.heap.size W W')
    (hO : ∀ (AI AN' : Option Addr) (cI cN' : Nat) W, TS W AI AN' T' → Calls Tryz.prog 33 #[.agg #[.int .i64 2, .slice AI 3 cI, .slice AN' m' cN']] W fun e W' => ∃ R nr c, e = .returned (.slice R nr c) ∧ nr ≤ 1 ∧ PR W.heap.size R nr c W' ∧ Below W.heap.size W W') :
    Calls Tryz.prog 15 #[.agg #[.int .i64 2, .slice AH 3 cH, .slice AN m cN]] w fun e w' => ∃ H h V v R nr c, e = .returned (.tuple #[.agg #[.int .i64 2, .int .i64 0, .slice H 3 h, .slice V 3 v, .slice R nr c], .int .i64 0]) ∧ (∃ lo, PR lo R nr c w') ∧ Below w.heap.size w w' := by
  obtain ⟨i0, hi, hz0, hz1, hz2⟩ := info_parts info_intsE
  have TR := Lib.hid hT
  have RD := Lib.hid hD
  have RO := Lib.hid hO
  have HPR := Lib.hid hPR
  have HQ := Lib.hid hq
  clear hT hD hO hPR hq
  have K0 := (Blk.new w 32 #[.int .i64 2, .slice AH 3 cH, .slice AN m cN]).alloc (.cells #[.int .i64 0, .int .i64 0, .slice none 0 0, .slice none 0 0, .slice none 0 0] 26)
  have K1 := Blk.new (w.alloc (.cells #[.int .i64 2, .slice AH 3 cH, .slice AN m cN] 32)) 26 #[.int .i64 0, .int .i64 0, .slice none 0 0, .slice none 0 0, .slice none 0 0]
  rw [World.size_alloc] at K1
  have B0 := ((Below.refl w.heap.size w).alloc (Nat.le_refl _) (.cells #[.int .i64 2, .slice AH 3 cH, .slice AN m cN] 32)).alloc (by simp) (.cells #[.int .i64 0, .int .i64 0, .slice none 0 0, .slice none 0 0, .slice none 0 0] 26)
  go_enter Tryz.func15, Tryz.ntmps15
  go_upto_region 1 with (fail)
  generalize (w.alloc (.cells #[.int .i64 2, .slice AH 3 cH, .slice AN m cN] 32)).alloc (.cells #[.int .i64 0, .int .i64 0, .slice none 0 0, .slice none 0 0, .slice none 0 0] 26) = w0 at K0 K1 B0 ⊢
  obtain ⟨t0, t1, t2, t3⟩ := K0.three
  have K0 := Lib.hid K0
  have K1 := Lib.hid K1
  have B0 := Lib.hid B0
  go_upto_region 6 with (first
    | (go_at_call 32; (with_reducible refine (TR.out _ B0.out).mono ?_); rintro e w1 ⟨rfl, hb⟩; have B1 := Lib.hid (B0.out.trans (hb.mono B0.out.size)); have K10 := Lib.hid (K0.out.below hb K0.out.lt); have K11 := Lib.hid (K1.out.below hb K1.out.lt); clear hb t0 t1 t2 t3; obtain ⟨t0, t1, t2, t3⟩ := K10.out.three)
    | (go_at_call 34; (with_reducible refine (RD.out _ B1.out).mono ?_); rintro e w2 ⟨AI, cI, AN', cN', rfl, hts, hb⟩; have TS2 := Lib.hid hts; have B2 := Lib.hid (B1.out.trans (hb.mono B1.out.size)); have K20 := Lib.hid (K10.out.below hb K10.out.lt); have K21 := Lib.hid (K11.out.below hb K11.out.lt); clear hb hts t0 t1 t2 t3; obtain ⟨t0, t1, t2, t3⟩ := K20.out.three)
    | (go_at_call 33; (with_reducible refine (RO.out _ _ _ _ _ TS2.out).mono ?_); rintro e w3 ⟨R, nr, c, rfl, hnr, hp, hb⟩; have PR3 := Lib.hid hp; have B3 := Lib.hid (B2.out.trans (hb.mono B2.out.size)); have K30 := Lib.hid (K20.out.below hb K20.out.lt); have K31 := Lib.hid (K21.out.below hb K21.out.lt); have hnI : decide ((400 : Int) < (nr : Int)) = false := decide_eq_false (by omega); have hnN : decide (400 < nr) = false := decide_eq_false (by omega); clear hb hp t0 t1 t2 t3; obtain ⟨t0, t1, t2, t3⟩ := K30.out.three))
  have KP := Lib.hid (fun W (hb : Below w3.heap.size w3 W) => show W.cell? ⟨w.heap.size, 0, none⟩ = some (.int .i64 2) ∧ W.cell? ⟨w.heap.size, 1, none⟩ = some (.slice AH 3 cH) from
    have q := (K30.out.below hb K30.out.lt).three
    ⟨q.1, q.2.1⟩)
  have P1 := Lib.hid (show ∀ W, Below w3.heap.size w3 W → Calls Tryz.prog 35 #[.slice AH 3 cH] W fun e W' => ∃ H h, e = .returned (.slice H 3 h) ∧ Below w3.heap.size w3 W' ∧ Below W.heap.size W W' from
    fun W hb => (clone_any AH 3 cH lnf W (HQ.out.later (B3.out.trans (hb.mono B3.out.size))) (by omega)).mono fun e W' ⟨A', c', he, _, hx⟩ => ⟨A', c', he, hb.trans (hx.mono hb.size), hx⟩)
  have S1 := KP.out w3 (Below.refl _ _)
  clear t0 t1 t2 t3 hnI hnN
  go_cut [5] from 17 to 23 (fun s5 wx => ∃ (gx : Nat) (H : Option Addr) (h : Nat), s5 = .pointer (some ⟨gx, 0, none⟩) ∧ Blk wx gx 26 #[.int .i64 2, .int .i64 0, .slice H 3 h, .slice none 0 0, .slice R nr c] ∧ w3.heap.size ≤ gx ∧ Below w3.heap.size w3 wx)
  case first =>
    go_region_held_law (fun W => W.cell? ⟨w.heap.size, 0, none⟩ = some (.int .i64 2) ∧ W.cell? ⟨w.heap.size, 1, none⟩ = some (.slice AH 3 cH))
      (first | assumption | (refine KP.out _ ?_; (with_reducible (repeat (first | assumption | exact Below.refl _ _ | refine Below.drew' ?_ | refine Below.alloc' ?_ _ | refine Below.set1 ?_ ?_ _ | exact Nat.le_refl _ | omega))); done) | go_keep)
      ((go_at_call 35; (with_reducible refine (P1.out _ ?_).mono ?_); (with_reducible (repeat (first | assumption | exact Below.refl _ _ | refine Below.drew' ?_ | refine Below.alloc' ?_ _))); rintro e wa ⟨H, h, rfl, ha1, ha2⟩; have sa := ha1.size; (try (have hk := Blk.below' (by first | exact Blk.new _ 26 #[.int .i64 0, .int .i64 0, .slice none 0 0, .slice none 0 0, .slice none 0 0] | exact Blk.drew (Blk.new _ 26 #[.int .i64 0, .int .i64 0, .slice none 0 0, .slice none 0 0, .slice none 0 0])) ha2; obtain ⟨k0, k1, k2, k3, k4, k5⟩ := hk.five; have g0 := hk.frozen 0; have g1 := hk.frozen 1; have g2 := hk.frozen 2; have g3 := hk.frozen 3; have g4 := hk.frozen 4))))
    all_goals
      go_wp2_with fail
      go_meet
      first
        | exact ⟨_, H, h, rfl, hk.all5 _ _ _ _ _, (by first | exact Nat.le_refl _ | omega), below_set5 ha1 (by first | exact Nat.le_refl _ | omega) _ _ _ _ _⟩
        | exact ⟨_, H, h, rfl, Blk.new wa _ _, sa, ha1.alloc ha1.size _⟩
  case rest =>
    obtain ⟨gx, H, h, rfl, hX, hgx, hBx⟩ := hcut
    have BX := Lib.hid hBx
    have KX0 := Lib.hid (K30.out.below hBx K30.out.lt)
    have KX1 := Lib.hid (K31.out.below hBx K31.out.lt)
    obtain ⟨t0, t1, t2, t3⟩ := KX0.out.three
    have hgl := hX.lt
    have HX := Lib.hid hX
    have hw1 : w.heap.size + 1 < w3.heap.size := K31.out.lt
    have hxs : w3.heap.size ≤ wc.heap.size := BX.out.size
    have O0 := Lib.hid (show wc.ownsRow wc.heap.size 27 1 (.slice none 0 0) 0 [] from World.ownsRow_nil _ _ _ _)
    clear hX hBx KP P1 S1
    go_wp2_with fail
    go_loopw [27] (fun iv wr => ∃ (j : Nat) (V : Option Addr) (v : Nat) (xs : List Value), j ≤ 3 ∧ iv = .int .i64 (j : Int) ∧ Hid (wr.ownsRow wc.heap.size 27 1 (.slice V j v) j xs) ∧ Hid (Blk wr gx 26 #[.int .i64 2, .int .i64 0, .slice H 3 h, .slice V j v, .slice R nr c]) ∧ Hid (Blk wr w.heap.size 32 #[.int .i64 2, .slice AH 3 cH, .slice AN m cN]) ∧ Hid (Blk wr (w.heap.size + 1) 26 #[.int .i64 0, .int .i64 0, .slice none 0 0, .slice none 0 0, .slice none 0 0]) ∧ Hid (Below w3.heap.size w3 wr) ∧ wc.heap.size ≤ wr.heap.size) (fun iv _ => 3 - (intOf iv).toNat)
    case atStart => exact ⟨0, none, 0, [], by omega, rfl, O0, HX, KX0, KX1, BX, Nat.le_refl _⟩
    case round =>
      obtain ⟨j, V, v, xs, hj, rfl, HO, HG, HT, HU, HB, hz⟩ := hrel
      by_cases hlt : j < 3
      · have hjI : (j : Int) < 3 := by omega
        obtain ⟨p0, p1, p2, p3⟩ := HT.out.three
        obtain ⟨q0, q1, q2, q3, q4, q5⟩ := HG.out.five
        have q3f := HG.out.frozen 3
        have AL := Lib.hid (fun W => alls_two W)
        go_wp2_with fail
        go_region_law (first
          | (go_simp; go_at_call 36; (with_reducible refine (AL.out _).mono ?_); rintro e wa ⟨rfl, hk, ha⟩; have ha := (show Below wr.heap.size wr wa from ⟨ha.os, ha.tape, ha.output, ha.size, ha.block⟩); have ka := HG.out.below ha HG.out.lt; have d3 := ka.five.2.2.2.1; have d3f := ka.frozen 3; have dd3 := (ka.alloc (.cells #[.slice (some ⟨wr.heap.size, 0, none⟩) 2 2] 27)).five.2.2.2.1)
          | (refine step_append_lies _ (by rfl) _ _ _ (by rfl) wc.heap.size 27 i0 (.slice none 0 0) 1 24 Tryz.underlying23 hi hz0 hz1 hz2 rfl (by decide) (.slice V j v) j xs (by rfl) ((own_below HO.out ha).alloc _) ⟨wa.heap.size, 0, none⟩ 1 1 [.slice (some ⟨wr.heap.size, 0, none⟩) 2 2] (by rfl) (by rfl) (World.news_of_block (cs := #[.slice (some ⟨wr.heap.size, 0, none⟩) 2 2]) (t := 27) (fr := (0, 0)) (heap_alloc_new wa _)) (by simp [Value.oneCell']) (by omega) (by unfold maxLen; omega) (by omega) (by have := ha.size; simp; omega) (wa.heap.size + 1) (by simp) ?_; intro gg cap w7 hown7 hgrow hat hglt; have hke := (show Blk w7 gx _ _ from (hgrow.block gx (by have := ka.lt; simp; omega) (fun e => by have := (HO.out.lt gx e.symm).1; omega)).trans (ka.alloc _)); have q3 := hke.five.2.2.2.1; have q3f := hke.frozen 3))
        all_goals
          have hza := ha.size
          have F7 := fr_app ha hgrow hat
          have ho7 := Lib.hid hown7
          have nV : ∀ b, ob V b → wc.heap.size ≤ b := ob_ge HO.out
          have X1 := Lib.hid (F7.blk HG.out (fun e => by have := nV _ e; omega))
          have X2 := Lib.hid (F7.blk HT.out (fun e => by have := nV _ e; have := K30.out.lt; omega))
          have X3 := Lib.hid (F7.blk HU.out (fun e => by have := nV _ e; omega))
          have X4 := Lib.hid (HB.out.trans ((F7.below (B := wc.heap.size) nV hz).mono hxs))
          have hz7 : wc.heap.size ≤ w7.heap.size := by have := F7.size; omega
          clear F7 hown7 hgrow hat hke ka ha
          go_wp2_with fail
          go_roundw
          case rel =>
            have hgo := ho7.out.lt gg rfl
            exact ⟨j + 1, _, _, _, by omega, by go_num, Lib.hid (own_set ho7.out (fun e => by have e : gg = gx := (by simpa [Value.ownBlock] using e); omega) _), Lib.hid (by simpa using X1.out.set_ 3 (.slice (some ⟨gg, 0, none⟩) (j + 1) cap)), Lib.hid (X2.out.far (by show w.heap.size ≠ gx; omega) _), Lib.hid (X3.out.far (by show w.heap.size + 1 ≠ gx; omega) _), Lib.hid (X4.out.setCell (p := ⟨gx, 3, none⟩) hgx _), by simpa [World.setCell] using hz7⟩
          case measure => simp [intOf]; omega
      · obtain rfl : j = 3 := by omega
        obtain ⟨q0, q1, q2, q3, q4, q5⟩ := HG.out.five
        obtain ⟨r0, r1, r2, r3, r4, r5⟩ := HU.out.five
        have f0 := HU.out.frozen 0
        have f1 := HU.out.frozen 1
        have f2 := HU.out.frozen 2
        have f3 := HU.out.frozen 3
        have f4 := HU.out.frozen 4
        go_wp2_with fail
        have KZ := HU.out.all5 (.int .i64 2) (.int .i64 0) (.slice H 3 h) (.slice V 3 v) (.slice R nr c)
        obtain ⟨y0, y1, y2, y3, y4, y5⟩ := KZ.five
        refine bodyPost_ret (v := .tuple #[.agg #[.int .i64 2, .int .i64 0, .slice H 3 h, .slice V 3 v, .slice R nr c], .int .i64 0]) (by simp [results, Tryz.results15, go_sem, y0, y1, y2, y3, y4]) rfl ?_
        have hb2 := K21.out.lt
        exact ⟨H, h, V, v, R, nr, c, rfl, ⟨_, HPR.out _ R nr c _ _ PR3.out (by simpa [World.setCell] using HB.out.size) (fun k hk1 hk2 => by
          have e : ∀ (W : World) (i : Nat) (u : Value), (W.setCell ⟨w.heap.size + 1, i, none⟩ u).heap[k]? = W.heap[k]? := fun W i u => Below.heap_setCell W ⟨w.heap.size + 1, i, none⟩ u k (by show k ≠ w.heap.size + 1; omega)
          rw [e, e, e, e, e]
          exact HB.out.block k hk2)⟩, below_set5 (B3.out.trans (HB.out.mono B3.out.size)) (by omega) _ _ _ _ _⟩
end
end Go.Proofs.YtcgkkppidkkjiaaGreatDoor
