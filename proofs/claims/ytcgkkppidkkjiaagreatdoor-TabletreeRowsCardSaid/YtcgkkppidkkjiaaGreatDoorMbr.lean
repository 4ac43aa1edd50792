/- Table at the trees of the examples. -/
/- The examples hold; the law at tables that are too great. -/
import Derived.Test.YtcgkkppidkkjiaaGreatDoorMbq
import Derived.Test.YtcgkkppidkkjiaaGreatDoorMbl
import Derived.Test.YtcgkkppidkkjiaaGreatDoorMbn
import Derived.Test.YtcgkkppidkkjiaaGreatDoorMbo
import Derived.Test.YtcgkkppidkkjiaaGreatDoorMbp
namespace Go.Proofs.YtcgkkppidkkjiaaGreatDoor
open Go.RowKit

def PR1 (_ : Nat) (R : Option Addr) (nr c : Nat) (_ : World) : Prop := R = none ∧ nr = 0 ∧ c = 0
def PR2 (lo : Nat) (R : Option Addr) (nr _ : Nat) (w' : World) : Prop := nr = 1 ∧ ∃ g X xc, R = some ⟨g, 0, none⟩ ∧ (lo ≤ g ∧ ∀ ad, X = some ad → lo ≤ ad.block) ∧ g < w'.heap.size ∧ w'.cell? ⟨g, 0, none⟩ = some (.slice X 3 xc) ∧ Reads w' w'.heap.size X 3 (il [-1, -2, -3]) ∧ w'.cell? ⟨g, 1, none⟩ = some (.int .i64 0)
theorem pr2_keep : ∀ lo R nr c W W', PR2 lo R nr c W → W.heap.size ≤ W'.heap.size → (∀ k, lo ≤ k → k < W.heap.size → W'.heap[k]? = W.heap[k]?) → PR2 lo R nr c W' := by
  rintro lo R nr c W W' ⟨h1, g, X, xc, h2, ⟨h3, h4⟩, h5, h6, h7, h8⟩ hs hb
  refine ⟨h1, g, X, xc, h2, ⟨h3, h4⟩, by omega, (World.cell?_of_block (hb g h3 h5)).trans h6, ⟨h7.1, fun hn => ?_⟩, (World.cell?_of_block (hb g h3 h5)).trans h8⟩
  obtain ⟨ad, e, hlt, hc⟩ := h7.2 hn
  refine ⟨ad, e, by omega, fun i u hu => ?_⟩
  rw [← hc i u hu]
  exact World.cell?_of_block (by rw [block_of_add]; exact hb _ (h4 ad e) hlt)
theorem table_read (w : World) (AH : Option Addr) (cH : Nat) (AN : Option Addr) (cN : Nat) (h : TS w AH AN (TRd lnf)) : Calls Tryz.prog 15 #[.agg #[.int .i64 2, .slice AH 3 cH, .slice AN 4 cN]] w fun e w' => ∃ (x y : Int) (H : Option Addr) (n h : Nat) (V : Option Addr) (v : Nat) (R : Option Addr) (r : Nat), e = .returned (.tuple #[.agg #[.int .i64 x, .int .i64 y, .slice H n h, .slice V 3 v, .slice R 0 r], .int .i64 0]) ∧ Below w.heap.size w w' :=
  (table_ex T1 4 4 PR1 (fun _ _ _ _ _ _ h _ _ => h) AH cH AN cN w h.1
    (fun W hb => tright_yes AH cH AN cN (TRd lnf) W (h.later hb) rtt_read)
    (fun W hb => red1 AH AN cH cN W (h.later hb))
    (fun AI AN' cI cN' W hts => (rows1 AI cI AN' cN' W hts).mono fun e W' ⟨he, hx⟩ => ⟨none, 0, 0, he, by omega, ⟨rfl, rfl, rfl⟩, hx⟩)).mono fun e w' ⟨H, h, V, v, R, nr, c, he, ⟨_, _, hn, _⟩, hb⟩ => by
      subst hn
      exact ⟨2, 0, H, 3, h, V, v, R, c, he, hb⟩
theorem table_con (w : World) (AH : Option Addr) (cH : Nat) (AN : Option Addr) (cN : Nat) (h : TS w AH AN (TCn 2 3 lnf 0)) : Calls Tryz.prog 15 #[.agg #[.int .i64 2, .slice AH 3 cH, .slice AN 3 cN]] w fun e w' => ∃ (x y : Int) (H : Option Addr) (n h : Nat) (V : Option Addr) (nv v g o r : Nat) (X : Option Addr) (xc : Nat), e = .returned (.tuple #[.agg #[.int .i64 x, .int .i64 y, .slice H n h, .slice V nv v, .slice (some ⟨g, o, none⟩) 1 r], .int .i64 0]) ∧ g < w'.heap.size ∧ w'.cell? ⟨g, o, none⟩ = some (.slice X 3 xc) ∧ Reads w' w'.heap.size X 3 (il [-1, -2, -3]) ∧ w'.cell? ⟨g, o + 1, none⟩ = some (.int .i64 0) ∧ Below w.heap.size w w' :=
  (table_ex T2 3 3 PR2 pr2_keep AH cH AN cN w h.1
    (fun W hb => tright_yes AH cH AN cN (TCn 2 3 lnf 0) W (h.later hb) rtt_con)
    (fun W hb => red2 AH AN cH cN W (h.later hb))
    (fun AI AN' cI cN' W hts => (rows2 AI cI AN' cN' W hts).mono fun e W' ⟨g, c', X, xc, he, h0, h1, h2, h3, h4, hx⟩ => ⟨some ⟨g, 0, none⟩, 1, c', he, by omega, ⟨rfl, g, X, xc, rfl, h0, h1, h2, h3, h4⟩, hx⟩)).mono fun e w' ⟨H, h, V, v, R, nr, c, he, ⟨lo, hn, g, X, xc, hR, _, h1, h2, h3, h4⟩, hb⟩ => by
      subst hn hR
      exact ⟨2, 0, H, 3, h, V, 3, v, g, 0, c, X, xc, he, h1, h2, h3, h4, hb⟩
end Go.Proofs.YtcgkkppidkkjiaaGreatDoor
namespace Go.Proofs.YtcgkkppidkkjiaaGreatDoor
open Go.RowKit

theorem dead_all (w : World) (AH : Option Addr) (cH : Nat) (AR : Option Addr) (cR : Nat) (hM : Mat w) (h : TR w AH none AR T0) (hR : 2 ≤ cR) : Calls Tryz.prog 12 #[.agg #[.int .i64 2, .int .i64 0, .slice AH 3 cH, .slice none 0 0, .slice AR 2 cR]] w fun e w' => ∃ A c, e = .returned (.tuple #[.slice A 1 c, .int .i64 0]) ∧ Reads w' w'.heap.size A 1 (il [1]) ∧ Below w.heap.size w w' :=
  dead0 AH cH AR cR w hM h (fun w' A c hb hI => dec_two AH cH AR cR A c w' (hM.below hb hM.1) (h.later hb) hR hI)
/-- the examples hold -/
theorem awake_all (w : World) (hM : Mat w) : Calls Tryz.prog 5 #[] w fun e w' => e = .returned (.bool true) ∧ Below w.heap.size w w' :=
  awake_from dead_all table_read table_con w hM
theorem bd_sm {T : Tab} (h : Sm T) : Bd T := by
  obtain ⟨h1, h2, h3, h4, h5⟩ := h
  exact ⟨by omega, by omega, by omega, fun k hk => by have := h4 k hk; omega, fun k hk => by have := h5 k hk; omega⟩
section
variable (AH : Option Addr) (cH : Nat) (AV : Option Addr) (cV : Nat) (AR : Option Addr) (cR : Nat) (T : Tab) (AI : Option Addr) (q cI : Nat) (w : World)
set_option maxRecDepth 100000 in
set_option maxHeartbeats 4000000 in
theorem law_nb (hM : Mat w) (h : TR w AH AV AR T) (hnb : ¬ Bd T) (h1 : T.n < 9223372036854775808) (h2 : T.nv < 9223372036854775808) (h3 : T.nr < 9223372036854775808) (h4 : ∀ k, k < T.nv → (T.v k).length < 9223372036854775808) (h5 : ∀ k, k < T.nr → (T.ri k).length < 9223372036854775808) :
    Calls Tryz.prog 3 #[.agg #[.int .i64 T.st, .int .i64 T.sy, .slice AH T.n cH, .slice AV T.nv cV, .slice AR T.nr cR], .slice AI q cI] w fun e w' => e = .returned (.bool true) ∧ Below w.heap.size w w' := by
  have AW := Lib.hid (fun w' (hb : Below w.heap.size w w') => awake_all w' (hM.below hb hM.1))
  have TI := Lib.hid (show ∀ w', Below w.heap.size w w' → Calls Tryz.prog 4 #[.agg #[.int .i64 T.st, .int .i64 T.sy, .slice AH T.n cH, .slice AV T.nv cV, .slice AR T.nr cR]] w' fun e w2 => e = .returned (.bool false) ∧ Below w'.heap.size w' w2 from fun w' hb => (tiny_any AH cH AV cV AR cR T w' (h.later hb) h1 h2 h3 h4 h5).mono fun e w2 ⟨qq, he, hq, hx⟩ => ⟨by
    cases qq with
    | false => exact he
    | true => exact absurd (bd_sm (hq rfl).2) hnb, hx⟩)
  clear h hM hnb h4 h5
  obtain ⟨st, ky, n, f, nv, v, nr, ri, ro⟩ := T
  simp only at *
  have B0 := (Below.refl w.heap.size w).alloc (Nat.le_refl _) (.cells #[.int .i64 st, .int .i64 ky, .slice AH n cH, .slice AV nv cV, .slice AR nr cR] 26)
  have K0 := Blk.new w 26 #[.int .i64 st, .int .i64 ky, .slice AH n cH, .slice AV nv cV, .slice AR nr cR]
  go_enter Tryz.func3, Tryz.ntmps3
  go_upto_region 1 with (fail)
  generalize w.alloc (.cells #[.int .i64 st, .int .i64 ky, .slice AH n cH, .slice AV nv cV, .slice AR nr cR] 26) = w0 at K0 B0 ⊢
  obtain ⟨t0, t1, t2, t3, t4, t5⟩ := K0.five
  have B0 := Lib.hid B0
  go_wp2_with (first
    | (go_at_call 4; (with_reducible refine (TI.out _ B0.out).mono ?_); rintro e w1 ⟨rfl, hb⟩; have B1 := Lib.hid (B0.out.trans (hb.mono B0.out.size)); clear hb)
    | (go_at_call 5; (with_reducible refine (AW.out _ B1.out).mono ?_); rintro e wz ⟨rfl, hb⟩; have BZ := Lib.hid (B1.out.trans (hb.mono B1.out.size)); clear hb))
  go_ret
  exact ⟨rfl, BZ.out⟩
end
end Go.Proofs.YtcgkkppidkkjiaaGreatDoor
