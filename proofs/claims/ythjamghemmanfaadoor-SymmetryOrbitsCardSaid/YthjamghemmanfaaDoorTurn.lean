/- The walk of Turn at a box from (0, 0). -/
import Derived.Test.YthjamghemmanfaaDoorAround
import Derived.Deep.RegionHeld3
import Derived.Deep.DrawnRows
namespace Go.Proofs.YthjamghemmanfaaDoor
open Go.RowKit

theorem Below.alloc' {w0 w : World} (h : Below w0.heap.size w0 w) (o : Obj) : Below w0.heap.size w0 (w.alloc o) := h.alloc h.size o
theorem Below.drew' {B : Nat} {w0 w : World} (h : Below B w0 w) : Below B w0 w.drew := h.drew
theorem Blk.below' {w w' : World} {g : Nat} {t : TypeId} {cs : Array Value} (h : Blk w g t cs) (hb : Below w.heap.size w w') : Blk w' g t cs := h.below hb h.lt
theorem Blk.four8 {w : World} {g : Nat} {t : TypeId} {a b c d : Value} (h : Blk w g t #[a, b, c, d]) : w.cell? ⟨g, 0, none⟩ = some a ∧ w.cell? ⟨g, 1, none⟩ = some b ∧ w.cell? ⟨g, 2, none⟩ = some c ∧ w.cell? ⟨g, 3, none⟩ = some d ∧ w.frozen? ⟨g, 0, none⟩ = false ∧ w.frozen? ⟨g, 1, none⟩ = false ∧ w.frozen? ⟨g, 2, none⟩ = false ∧ w.frozen? ⟨g, 3, none⟩ = false ∧ g < w.heap.size :=
  ⟨h.four.1, h.four.2.1, h.four.2.2.1, h.four.2.2.2.1, h.frozen 0, h.frozen 1, h.frozen 2, h.frozen 3, h.lt⟩
theorem Below.set' {w0 w : World} {g i : Nat} (u : Value) (h : Below w0.heap.size w0 w) (hg : w0.heap.size ≤ g) : Below w0.heap.size w0 (w.setCell ⟨g, i, none⟩ u) := h.setCell (p := ⟨g, i, none⟩) hg u
theorem Blk.new1 (w : World) (o : Obj) (t : TypeId) (cs : Array Value) : Blk ((w.alloc o).alloc (.cells cs t)) (w.heap.size + 1) t cs := by
  have h := Blk.new (w.alloc o) t cs
  have s1 : (w.alloc o).heap.size = w.heap.size + 1 := by simp
  rwa [s1] at h
theorem Blk.all4 {w : World} {g : Nat} {t : TypeId} {z0 z1 z2 z3 : Value} (h : Blk w g t #[z0, z1, z2, z3]) (a b c d : Value) : Blk ((((w.setCell ⟨g, 0, none⟩ a).setCell ⟨g, 1, none⟩ b).setCell ⟨g, 2, none⟩ c).setCell ⟨g, 3, none⟩ d) g t #[a, b, c, d] := by
  have h9 := (((h.set_ 0 a).set_ 1 b).set_ 2 c).set_ 3 d
  simpa using h9
theorem Blk.all2 {w : World} {g : Nat} {t : TypeId} {z0 z1 : Value} (h : Blk w g t #[z0, z1]) (a b : Value) : Blk ((w.setCell ⟨g, 0, none⟩ a).setCell ⟨g, 1, none⟩ b) g t #[a, b] := by
  have h9 := (h.set_ 0 a).set_ 1 b
  simpa using h9
theorem Below.all4 {w0 w : World} {B g : Nat} (h : Below B w0 w) (hg : B ≤ g) (a b c d : Value) : Below B w0 ((((w.setCell ⟨g, 0, none⟩ a).setCell ⟨g, 1, none⟩ b).setCell ⟨g, 2, none⟩ c).setCell ⟨g, 3, none⟩ d) :=
  (((h.setCell (p := ⟨g, 0, none⟩) hg a).setCell (p := ⟨g, 1, none⟩) hg b).setCell (p := ⟨g, 2, none⟩) hg c).setCell (p := ⟨g, 3, none⟩) hg d
theorem Below.all2 {w0 w : World} {B g : Nat} (h : Below B w0 w) (hg : B ≤ g) (a b : Value) : Below B w0 ((w.setCell ⟨g, 0, none⟩ a).setCell ⟨g, 1, none⟩ b) :=
  (h.setCell (p := ⟨g, 0, none⟩) hg a).setCell (p := ⟨g, 1, none⟩) hg b
theorem turn_00 (m : Nat) (h : m < 8) : turnX m 0 0 = 0 ∧ turnY m 0 0 = 0 :=
  eight (P := fun m => turnX m 0 0 = 0 ∧ turnY m 0 0 = 0) ⟨rfl, rfl⟩ ⟨rfl, rfl⟩ ⟨rfl, rfl⟩ ⟨rfl, rfl⟩ ⟨rfl, rfl⟩ ⟨rfl, rfl⟩ ⟨rfl, rfl⟩ ⟨rfl, rfl⟩ m h

/-- the corners' list -/
def two (a b c d : Int) (k : Nat) : Int × Int := if k = 0 then (a, b) else (c, d)
theorem two_reads {w : World} {g : Nat} {t : TypeId} {a b c d : Int} (h : Blk w g t #[.int .i64 a, .int .i64 b, .int .i64 c, .int .i64 d]) : PReads w w.heap.size g 2 (two a b c d) := by
  obtain ⟨h0, h1, h2, h3, h4⟩ := h.four
  refine ⟨h4, fun k hk => ?_⟩
  match k, hk with
  | 0, _ => exact ⟨h0, h1⟩
  | 1, _ => exact ⟨h2, h3⟩
theorem around_two (g : Nat) (c d : Int) (t : TypeId) (w : World) (h : Blk w g t #[.int .i64 0, .int .i64 0, .int .i64 c, .int .i64 d]) (h1 : -1048576 ≤ c) (h2 : c ≤ 1048576) (h3 : -1048576 ≤ d) (h4 : d ≤ 1048576) :
    Calls Tryd.prog 22 #[.slice (some ⟨g, 0, none⟩) 2 2] w fun e w' => e = .returned (.tuple #[.agg #[.int .i64 (min 0 c), .int .i64 (min 0 d), .int .i64 (max 0 c - min 0 c + 1), .int .i64 (max 0 d - min 0 d + 1)], .bool true]) ∧ Below w.heap.size w w' := by
  have H := around_any g 2 2 (two 0 0 c d) 0 0 w (two_reads h) (by omega) (by omega) (fun k hk => by unfold two; split <;> simp <;> omega) rfl
  have e1 : lo (fun k => (two 0 0 c d k).1) 2 = min 0 c := by simp [lo, two]
  have e2 : lo (fun k => (two 0 0 c d k).2) 2 = min 0 d := by simp [lo, two]
  have e3 : hi (fun k => (two 0 0 c d k).1) 2 = max 0 c := by simp [hi, two]
  have e4 : hi (fun k => (two 0 0 c d k).2) 2 = max 0 d := by simp [hi, two]
  rw [e1, e2, e3, e4] at H
  exact H

set_option maxRecDepth 100000 in
set_option maxHeartbeats 4000000 in
theorem turn_any (k : Int) (W H p q : Nat) (w : World) (hM : Mat w) (hW : W = p + 1) (hH : H = q + 1) (hp : p ≤ 255) (hq : q ≤ 255) :
    Calls Tryd.prog 11 #[.int .i64 k, .agg #[.int .i64 0, .int .i64 0, .int .i64 (W : Nat), .int .i64 (H : Nat)]] w fun e w' => e = .returned (.agg #[.int .i64 (min 0 (turnX (md k) p q)), .int .i64 (min 0 (turnY (md k) p q)), .int .i64 (max 0 (turnX (md k) p q) - min 0 (turnX (md k) p q) + 1), .int .i64 (max 0 (turnY (md k) p q) - min 0 (turnY (md k) p q) + 1)]) ∧ Below w.heap.size w w' := by
  have R := Lib.hid (fun w => right_yes 0 0 W H w ⟨⟨by omega, by omega, by omega, by omega⟩, by omega, by omega, by omega, by omega⟩)
  have bd := turn_bd (md k) p q 255 (md_lt k) (by omega) (by omega) (by omega) (by omega)
  obtain ⟨z1, z2⟩ := turn_00 (md k) (md_lt k)
  have e1 : (W : Int) - 1 = (p : Int) := by omega
  have e2 : (H : Int) - 1 = (q : Int) := by omega
  have A1 := Lib.hid (fun w hM => apply_any k 0 0 w hM (by omega) (by omega) (by omega) (by omega))
  rw [z1, z2] at A1
  have A2 := Lib.hid (fun w hM => apply_any k p q w hM (by omega) (by omega) (by omega) (by omega))
  have AR := Lib.hid (fun g t w h => around_two g (turnX (md k) p q) (turnY (md k) p q) t w h (by omega) (by omega) (by omega) (by omega))
  obtain ⟨K3, K4, B4⟩ := two_blk w #[.int .i64 0, .int .i64 0, .int .i64 (W : Nat), .int .i64 (H : Nat)] #[.int .i64 0, .int .i64 0, .int .i64 0, .int .i64 0] 35 35
  have HK3 := Lib.hid K3
  have HK4 := Lib.hid K4
  have HB4 := Lib.hid B4
  have HM := Lib.hid hM
  clear K3 K4 B4 z1 z2 hM hW hH bd
  generalize turnX (md k) p q = c at A2 AR ⊢
  generalize turnY (md k) p q = d at A2 AR ⊢
  go_enter Tryd.func11, Tryd.ntmps11
  go_wp2_with (go_at_call 21; (with_reducible refine (R.out _).mono ?_); rintro e w1 ⟨rfl, hb1⟩; have H3 := Lib.hid (HK3.out.below' hb1); have H4 := Lib.hid (HK4.out.below' hb1); have HB := Lib.hid (HB4.out.trans (hb1.mono HB4.out.size)); obtain ⟨c0, c1, c2, c3, c4⟩ := (HK3.out.below' hb1).four; clear hb1)
  obtain ⟨K5, K6, B5⟩ := two_blk w1 #[.int .i64 0, .int .i64 0] #[.int .i64 p, .int .i64 q] 30 30
  have L4 := Lib.hid (H4.out.below' B5)
  have HB5 := Lib.hid (HB.out.trans (B5.mono HB.out.size))
  have HK5 := Lib.hid K5
  have HK6 := Lib.hid K6
  clear K5 K6
  have hs4 : w.heap.size + 1 < w1.heap.size := H4.out.lt
  have MM := Lib.hid (HM.out.below HB5.out HM.out.1)
  obtain ⟨s5, hs5⟩ : ∃ s5, s5 = w1.heap.size := ⟨_, rfl⟩
  rw [← hs5] at HK5 HK6 hs4
  clear c0 c1 c2 c3 c4 H3 H4 B5
  rw [← hs5]
  generalize (w1.alloc (.cells #[.int .i64 0, .int .i64 0] 30)).alloc (.cells #[.int .i64 p, .int .i64 q] 30) = w2 at HK5 HK6 L4 HB5 MM ⊢
  clear hs5
  obtain ⟨c50, c51, c52, c53, c54⟩ := HK5.out.two
  obtain ⟨c60, c61, c62, c63, c64⟩ := HK6.out.two
  have KP := Lib.hid (show ∀ w', Below w2.heap.size w2 w' → w'.cell? ⟨s5, 0, none⟩ = some (.int .i64 0) ∧ w'.cell? ⟨s5, 1, none⟩ = some (.int .i64 0) ∧ w'.cell? ⟨s5 + 1, 0, none⟩ = some (.int .i64 p) ∧ w'.cell? ⟨s5 + 1, 1, none⟩ = some (.int .i64 q) from
    fun w' hb => ⟨(HK5.out.below' hb).two.1, (HK5.out.below' hb).two.2.1, (HK6.out.below' hb).two.1, (HK6.out.below' hb).two.2.1⟩)
  have P1 := Lib.hid (show ∀ w', Below w2.heap.size w2 w' → Calls Tryd.prog 8 #[.int .i64 k, .agg #[.int .i64 0, .int .i64 0]] w' fun e w'' => e = .returned (.agg #[.int .i64 0, .int .i64 0]) ∧ Below w2.heap.size w2 w'' ∧ Below w'.heap.size w' w'' from
    fun w' hb => (A1.out w' (MM.out.below hb MM.out.1)).mono fun e w'' ⟨he, h⟩ => ⟨he, hb.trans (h.mono hb.size), h⟩)
  have P2 := Lib.hid (show ∀ w', Below w2.heap.size w2 w' → Calls Tryd.prog 8 #[.int .i64 k, .agg #[.int .i64 p, .int .i64 q]] w' fun e w'' => e = .returned (.agg #[.int .i64 c, .int .i64 d]) ∧ Below w2.heap.size w2 w'' ∧ Below w'.heap.size w' w'' from
    fun w' hb => (A2.out w' (MM.out.below hb MM.out.1)).mono fun e w'' ⟨he, h⟩ => ⟨he, hb.trans (h.mono hb.size), h⟩)
  have P3 := Lib.hid (show ∀ g t w', Below w2.heap.size w2 w' → Blk w' g t #[.int .i64 0, .int .i64 0, .int .i64 c, .int .i64 d] → Calls Tryd.prog 22 #[.slice (some ⟨g, 0, none⟩) 2 2] w' fun e w'' => e = .returned (.tuple #[.agg #[.int .i64 (min 0 c), .int .i64 (min 0 d), .int .i64 (max 0 c - min 0 c + 1), .int .i64 (max 0 d - min 0 d + 1)], .bool true]) ∧ Below w2.heap.size w2 w'' ∧ Below w'.heap.size w' w'' from
    fun g t w' hb hk => (AR.out g t w' hk).mono fun e w'' ⟨he, h⟩ => ⟨he, hb.trans (h.mono hb.size), h⟩)
  clear A1 A2 AR R HK3 HK4 HB4 HM HB
  obtain ⟨mc, hmc⟩ : ∃ mc, mc = min 0 c := ⟨_, rfl⟩
  obtain ⟨md', hmd⟩ : ∃ md', md' = min 0 d := ⟨_, rfl⟩
  obtain ⟨xc, hxc⟩ : ∃ xc, xc = max 0 c - min 0 c + 1 := ⟨_, rfl⟩
  obtain ⟨xd, hxd⟩ : ∃ xd, xd = max 0 d - min 0 d + 1 := ⟨_, rfl⟩
  rw [← hxc, ← hxd, ← hmc, ← hmd] at P3
  have HXC := Lib.hid (And.intro hxc hxd)
  have HMC := Lib.hid (And.intro hmc hmd)
  clear hmc hmd hxc hxd
  go_cut [7, 8] from 31 to 41 (fun s7 s8 wx => ∃ gb : Nat, s7 = .pointer (some ⟨gb, 0, none⟩) ∧ s8 = .bool true ∧ Blk wx gb 35 #[.int .i64 mc, .int .i64 md', .int .i64 xc, .int .i64 xd] ∧ w2.heap.size ≤ gb ∧ Below w2.heap.size w2 wx)
  case first =>
    go_region_held3 (fun w' => w'.cell? ⟨s5, 0, none⟩ = some (.int .i64 0) ∧ w'.cell? ⟨s5, 1, none⟩ = some (.int .i64 0) ∧ w'.cell? ⟨s5 + 1, 0, none⟩ = some (.int .i64 p) ∧ w'.cell? ⟨s5 + 1, 1, none⟩ = some (.int .i64 q))
      (first | (refine KP.out _ ?_; (with_reducible (repeat (first | assumption | exact Below.refl _ _ | refine Below.drew' ?_ | refine Below.alloc' ?_ _ | refine Below.set' _ ?_ ?_ | omega))); done) | go_keep)
      (first | (go_at_call 8; (with_reducible refine (P1.out _ ?_).mono ?_); (with_reducible (repeat (first | assumption | exact Below.refl _ _ | refine Below.drew' ?_ | refine Below.alloc' ?_ _))); rintro e wa ⟨rfl, ha1, ha2⟩; have sa := ha1.size; (try (have hk := Blk.below' (by first | exact Blk.new _ 35 #[.int .i64 0, .int .i64 0, .int .i64 0, .int .i64 0] | exact hk | exact Blk.alloc hk _ | exact Blk.alloc (Blk.new _ 35 #[.int .i64 0, .int .i64 0, .int .i64 0, .int .i64 0]) _) ha2; obtain ⟨k0, k1, k2, k3, k4, k5, k6, k7, k8⟩ := hk.four8; (try simp at k0 k1 k2 k3 k4 k5 k6 k7); (try simp at hk)))) | (go_at_call 8; (with_reducible refine (P2.out _ ?_).mono ?_); (with_reducible (repeat (first | assumption | exact Below.refl _ _ | refine Below.drew' ?_ | refine Below.alloc' ?_ _))); rintro e wb ⟨rfl, hb1, hb2⟩; have sb := hb1.size; (try (have hk := Blk.below' (by first | exact Blk.new _ 35 #[.int .i64 0, .int .i64 0, .int .i64 0, .int .i64 0] | exact hk | exact Blk.alloc hk _ | exact Blk.alloc (Blk.new _ 35 #[.int .i64 0, .int .i64 0, .int .i64 0, .int .i64 0]) _) hb2; obtain ⟨k0, k1, k2, k3, k4, k5, k6, k7, k8⟩ := hk.four8; (try simp at k0 k1 k2 k3 k4 k5 k6 k7); (try simp at hk)))) | (go_at_call 22; (with_reducible refine (P3.out _ 30 _ ?_ ?_).mono ?_); (with_reducible (repeat (first | assumption | exact Below.refl _ _ | refine Below.drew' ?_ | refine Below.alloc' ?_ _))); (with_reducible (repeat (first | exact Blk.new _ _ _ | exact Blk.new1 _ _ _ _ | refine Blk.drew ?_ | refine Blk.alloc ?_ _))); rintro e wc ⟨rfl, hc1, hc2⟩; have sc := hc1.size; (try (have hk := Blk.below' (by first | exact Blk.new _ 35 #[.int .i64 0, .int .i64 0, .int .i64 0, .int .i64 0] | exact hk | exact Blk.alloc hk _ | exact Blk.alloc (Blk.new _ 35 #[.int .i64 0, .int .i64 0, .int .i64 0, .int .i64 0]) _) hc2; obtain ⟨k0, k1, k2, k3, k4, k5, k6, k7, k8⟩ := hk.four8; (try simp at k0 k1 k2 k3 k4 k5 k6 k7); (try simp at hk)))))
    all_goals
      go_wp2_with fail
      go_meet
      first
        | with_reducible exact ⟨_, rfl, rfl, Blk.new _ _ _, sc, Below.alloc' hc1 _⟩
        | (have hge : w2.heap.size ≤ wb.heap.size := by omega
           have hge' : w2.heap.size ≤ wb.heap.size + 1 := by omega
           have hge2 : w2.heap.size ≤ wa.heap.size := by omega
           have hge3 : w2.heap.size ≤ wa.heap.size + 1 := by omega
           have hge4 : w2.heap.size ≤ w2.heap.size := Nat.le_refl _
           with_reducible exact ⟨_, rfl, rfl, hk.all4 _ _ _ _, by assumption, Below.all4 hc1 (by assumption) _ _ _ _⟩)
  case rest =>
    obtain ⟨gb, rfl, rfl, KB, hgb, hbel⟩ := hcut
    have N4 := Lib.hid (L4.out.below' hbel)
    have HZ := Lib.hid (HB5.out.trans (hbel.mono HB5.out.size))
    obtain ⟨b0, b1, b2, b3, b4⟩ := KB.four
    obtain ⟨n0, n1, n2, n3, n4, n5, n6, n7, n8⟩ := N4.out.four8
    clear KB hbel
    go_wp2
    have E := N4.out.all4 (.int .i64 mc) (.int .i64 md') (.int .i64 xc) (.int .i64 xd)
    have E2 := Below.all4 HZ.out (Nat.le_succ _) (.int .i64 mc) (.int .i64 md') (.int .i64 xc) (.int .i64 xd)
    generalize (((wc.setCell ⟨w.heap.size + 1, 0, none⟩ (.int .i64 mc)).setCell ⟨w.heap.size + 1, 1, none⟩ (.int .i64 md')).setCell ⟨w.heap.size + 1, 2, none⟩ (.int .i64 xc)).setCell ⟨w.heap.size + 1, 3, none⟩ (.int .i64 xd) = wz at E E2 ⊢
    obtain ⟨j0, j1, j2, j3, j4⟩ := E.four
    rw [← HXC.out.1, ← HXC.out.2, ← HMC.out.1, ← HMC.out.2]
    exact bodyPost_ret (v := .agg #[.int .i64 mc, .int .i64 md', .int .i64 xc, .int .i64 xd]) (by simp [results, Tryd.results11, go_sem, j0, j1, j2, j3]) rfl ⟨rfl, E2⟩
end Go.Proofs.YthjamghemmanfaaDoor
