/- The walk of Home on a valid pattern. -/
import Derived.Test.YtobaabankhpfjaaDoorClone
namespace Go.Proofs.YtobaabankhpfjaaDoor
open Go.RowKit

/-- block g holds n cells from its beginning on, none frozen -/
def Rw (w : World) (g n : Nat) (f : Nat → C3) : Prop :=
  g < w.heap.size ∧ (∀ j, w.frozen? ⟨g, j, none⟩ = false) ∧ ∀ k, k < n → w.cell? ⟨g, k * 3, none⟩ = some (.int .i64 (f k).1) ∧ w.cell? ⟨g, k * 3 + 1, none⟩ = some (.int .i64 (f k).2.1) ∧ w.cell? ⟨g, k * 3 + 2, none⟩ = some (.int .i64 (f k).2.2)
theorem Rw.of_own {w : World} {base g n c : Nat} {e : TypeId} {f : Nat → C3} (h : w.ownsRow base e 3 (.slice (some ⟨g, 0, none⟩) n c) n (cells3 f n)) : Rw w g n f := by
  refine ⟨(h.lt g rfl).2, fun j => h.frozenAt j, fun k hk => ?_⟩
  have hl := cells3_len f n
  obtain ⟨c1, c2, c3⟩ := cells3_at f n k hk
  refine ⟨?_, ?_, ?_⟩
  · rw [h.cellAt (k * 3) (by omega), c1]
  · rw [h.cellAt (k * 3 + 1) (by omega), c2]
  · rw [h.cellAt (k * 3 + 2) (by omega), c3]
theorem Rw.reads {w : World} {g n : Nat} {f : Nat → C3} (h : Rw w g n f) : CReads w w.heap.size (some ⟨g, 0, none⟩) n f := fun _ => by
  refine ⟨g, 0, rfl, h.1, fun k hk => ?_⟩
  simp only [Nat.zero_add]
  exact h.2.2 k hk
theorem Rw.drew {w : World} {g n : Nat} {f : Nat → C3} (h : Rw w g n f) : Rw w.drew g n f := h
/-- the j-th cell's first number stored -/
theorem Rw.setX {w : World} {g n : Nat} {f : Nat → C3} (h : Rw w g n f) (j : Nat) (x : Int) : Rw (w.setCell ⟨g, j * 3, none⟩ (.int .i64 x)) g n (fun k => if k = j then (x, (f k).2.1, (f k).2.2) else f k) := by
  obtain ⟨h1, h2, h3⟩ := h
  refine ⟨by simpa [World.setCell] using h1, fun i => by simpa using h2 i, fun k hk => ?_⟩
  obtain ⟨c0, c1, c2⟩ := h3 k hk
  refine ⟨?_, ?_, ?_⟩
  · by_cases e : k = j
    · subst e; rw [World.cell?_setCell_same' _ _ _ (by rw [c0]; rfl)]; simp
    · rw [World.cell?_setCell_other w _ _ _ (by intro h; injection h with _ h; omega), c0]; simp only; rw [if_neg e]
  · rw [World.cell?_setCell_other w _ _ _ (by intro h; injection h with _ h; omega), c1]; simp only; split <;> rfl
  · rw [World.cell?_setCell_other w _ _ _ (by intro h; injection h with _ h; omega), c2]; simp only; split <;> rfl
/-- .. and its second -/
theorem Rw.setY {w : World} {g n : Nat} {f : Nat → C3} (h : Rw w g n f) (j : Nat) (y : Int) : Rw (w.setCell ⟨g, j * 3 + 1, none⟩ (.int .i64 y)) g n (fun k => if k = j then ((f k).1, y, (f k).2.2) else f k) := by
  obtain ⟨h1, h2, h3⟩ := h
  refine ⟨by simpa [World.setCell] using h1, fun i => by simpa using h2 i, fun k hk => ?_⟩
  obtain ⟨c0, c1, c2⟩ := h3 k hk
  refine ⟨?_, ?_, ?_⟩
  · rw [World.cell?_setCell_other w _ _ _ (by intro h; injection h with _ h; omega), c0]; simp only; split <;> rfl
  · by_cases e : k = j
    · subst e; rw [World.cell?_setCell_same' _ _ _ (by rw [c1]; rfl)]; simp
    · rw [World.cell?_setCell_other w _ _ _ (by intro h; injection h with _ h; omega), c1]; simp only; rw [if_neg e]
  · rw [World.cell?_setCell_other w _ _ _ (by intro h; injection h with _ h; omega), c2]; simp only; split <;> rfl
theorem Rw.to {w : World} {g n : Nat} {f f' : Nat → C3} (h : Rw w g n f) (e : ∀ k, k < n → f k = f' k) : Rw w g n f' :=
  ⟨h.1, h.2.1, fun k hk => by rw [← e k hk]; exact h.2.2 k hk⟩

/-- the first j cells moved -/
def mvTo (dx dy : Int) (f : Nat → C3) (j : Nat) : Nat → C3 := fun k => if k < j then mv dx dy f k else f k

set_option maxRecDepth 100000 in
set_option maxHeartbeats 2000000 in
theorem home_some (A : Option Addr) (n c : Nat) (f : Nat → C3) (w : World) (h : CReads w w.heap.size A n f) (hok : OkL f n) (hn0 : 0 < n) :
    Calls Tryd.prog 11 #[.slice A n c] w fun e w' => ∃ A' c', e = .returned (.slice A' n c') ∧ CReads w' w'.heap.size A' n (mv (-(lo (fun k => (f k).1) n)) (-(lo (fun k => (f k).2.1) n)) f) ∧ Below w.heap.size w w' := by
  have hn := hok.1
  have BX := Lib.hid (box_some A n c f w h hok hn0)
  have LX := lo_bd (fun k => (f k).1) n 1048576 hn0 (fun k hk => ⟨(hok.okp k hk).1, (hok.okp k hk).2.1⟩) n (Nat.le_refl _)
  have LY := lo_bd (fun k => (f k).2.1) n 1048576 hn0 (fun k hk => ⟨(hok.okp k hk).2.2.1, (hok.okp k hk).2.2.2⟩) n (Nat.le_refl _)
  generalize lo (fun k => (f k).1) n = X at BX LX ⊢
  generalize lo (fun k => (f k).2.1) n = Y at BX LY ⊢
  have H := Lib.hid h
  have HO := Lib.hid (fun k hk => hok.okp k hk)
  have CL := Lib.hid (fun (w : World) (h : CReads w w.heap.size A n f) => clone_any A n c f w h hn)
  clear h hok
  go_enter Tryd.func11, Tryd.ntmps11
  go_wp2_with (first
    | (go_at_call 26; (with_reducible refine BX.out.mono ?_); rintro e w1 ⟨W, Z, rfl, hb⟩; have B1 := Lib.hid hb; have K1 := Lib.hid (Blk.new w1 53 #[.int .i64 X, .int .i64 Y, .int .i64 W, .int .i64 Z]); have B2 := Lib.hid (hb.alloc hb.size (.cells #[.int .i64 X, .int .i64 Y, .int .i64 W, .int .i64 Z] 53)); have CR := H.out.later B2.out; clear hb)
    | (go_at_call 27; (with_reducible refine (CL.out _ CR).mono ?_); rintro e w2 ⟨A', c', rfl, ho, hb⟩; have HW := Lib.hid ho; have K2 := Lib.hid (K1.out.below hb K1.out.lt); have B3 := Lib.hid (B2.out.trans (hb.mono B2.out.size)); clear ho hb))
  obtain ⟨g, cc, hv, hg, hs⟩ := HW.out.form hn0
  injection hv with hv1 hv2 hv3
  subst hv1 hv3
  have hgb := (HW.out.lt g rfl).1
  rw [size_al] at hgb
  have R2 := Lib.hid (Rw.of_own HW.out)
  have hgw : w.heap.size ≤ g := Nat.le_trans B1.out.size (by omega)
  clear HW hg hs CR
  obtain ⟨gb, hgb'⟩ : ∃ gb, gb = w1.heap.size := ⟨_, rfl⟩
  rw [← hgb'] at K2 hgb ⊢
  have hne : gb ≠ g := by omega
  clear hgb' K1 B1 B2
  go_loopw [16] (fun jv wr => ∃ j : Nat, j ≤ n ∧ jv = .int .i64 (j : Int) ∧ Rw wr g n (mvTo (-X) (-Y) f j) ∧ Blk wr gb 53 #[.int .i64 X, .int .i64 Y, .int .i64 W, .int .i64 Z] ∧ Below w.heap.size w wr) (fun jv _ => n - (intOf jv).toNat)
  case atStart => exact ⟨0, Nat.zero_le _, rfl, R2.out.to (fun k _ => by unfold mvTo; rw [if_neg (by omega)]), K2.out, B3.out⟩
  case round =>
    obtain ⟨j, hj, rfl, hrw, hkb, hbel⟩ := hrel
    have HB := Lib.hid hbel
    have HR := Lib.hid hrw
    have HK := Lib.hid hkb
    by_cases hjn : j < n
    · have hp := HO.out j hjn
      have hc := hrw.2.2 j hjn
      have hfz := hrw.2.1
      have f0 := hfz (j * 3)
      have hgl := hrw.1
      have hmj : mvTo (-X) (-Y) f j j = f j := by unfold mvTo; rw [if_neg (by omega)]
      rw [hmj] at hc
      obtain ⟨⟨x, y, s⟩, hx⟩ : ∃ x, x = f j := ⟨_, rfl⟩
      rw [← hx] at hc hp
      have HX := Lib.hid hx
      have HM := Lib.hid hmj
      obtain ⟨p1, p2, p3, p4⟩ := hp
      obtain ⟨c0, c1, c2⟩ := hc
      obtain ⟨b0, b1, b2, b3, b4⟩ := hkb.four
      simp only at p1 p2 p3 p4 c0 c1 c2
      clear hrw hkb hbel hfz hx hmj
      go_wp2_with fail
      go_region
      have R3 := (HR.out.setX j (x - X)).drew
      have K3 := (HK.out.far (p := ⟨g, j * 3, none⟩) hne (.int .i64 (x - X))).drew
      have B3 := (HB.out.setCell (p := ⟨g, j * 3, none⟩) hgw (.int .i64 (x - X))).drew
      clear c0 c1 c2 b0 b1 b2 b3 b4 f0 hgl
      generalize (wr.setCell ⟨g, j * 3, none⟩ (.int .i64 (x - X))).drew = w3 at R3 K3 B3 ⊢
      have c1 := (R3.2.2 j hjn).2.1
      simp only [if_true, HM.out, ← HX.out] at c1
      have f1 := R3.2.1 (j * 3 + 1)
      have hgl := R3.1
      obtain ⟨b0, b1, b2, b3, b4⟩ := K3.four
      have HR3 := Lib.hid R3
      have HK3 := Lib.hid K3
      have HB3 := Lib.hid B3
      clear R3 K3 B3
      go_wp2_with fail
      go_region
      have R4 := (HR3.out.setY j (y - Y)).drew
      have K4 := (HK3.out.far (p := ⟨g, j * 3 + 1, none⟩) hne (.int .i64 (y - Y))).drew
      have B4 := (HB3.out.setCell (p := ⟨g, j * 3 + 1, none⟩) hgw (.int .i64 (y - Y))).drew
      clear c1 b0 b1 b2 b3 b4 f1 hgl
      have HR4 := Lib.hid R4
      have HK4 := Lib.hid K4
      have HB4 := Lib.hid B4
      clear R4 K4 B4
      generalize (w3.setCell ⟨g, j * 3 + 1, none⟩ (.int .i64 (y - Y))).drew = w4 at HR4 HK4 HB4 ⊢
      go_wp2
      go_roundw
      case rel =>
        refine ⟨j + 1, by omega, by go_num, HR4.out.to (fun k _ => ?_), HK4.out, HB4.out⟩
        by_cases e : k = j
        · subst e
          rw [if_pos rfl, if_pos rfl, HM.out]
          unfold mvTo mv
          rw [if_pos (by omega), ← HX.out]
          rfl
        · rw [if_neg e, if_neg e]
          unfold mvTo
          by_cases e2 : k < j
          · rw [if_pos e2, if_pos (by omega)]
          · rw [if_neg e2, if_neg (by omega)]
      case measure => simp [intOf]; omega
    · obtain rfl : j = n := by omega
      clear hrw hkb hbel
      go_wp2
      go_ret
      refine ⟨_, ⟨_, rfl⟩, (HR.out.to (fun k hk => ?_)).reads, HB.out⟩
      unfold mvTo
      rw [if_pos hk]
theorem home_none (A : Option Addr) (c : Nat) (w : World) :
    Calls Tryd.prog 11 #[.slice A 0 c] w fun e w' => ∃ A' c', e = .returned (.slice A' 0 c') ∧ Below w.heap.size w w' := by
  have BX := Lib.hid (box_none A c w)
  have CL := Lib.hid (fun (w : World) => clone_any A 0 c (fun _ => (0, 0, 0)) w (fun h => absurd h (by omega)) (by omega))
  go_enter Tryd.func11, Tryd.ntmps11
  go_wp2_with (first
    | (go_at_call 26; (with_reducible refine BX.out.mono ?_); rintro e w1 ⟨rfl, hb⟩; have B2 := Lib.hid (hb.alloc hb.size (.cells #[.int .i64 0, .int .i64 0, .int .i64 0, .int .i64 0] 53)); clear hb)
    | (go_at_call 27; (with_reducible refine (CL.out _).mono ?_); rintro e w2 ⟨A', c', rfl, ho, hb⟩; have B3 := Lib.hid (B2.out.trans (hb.mono B2.out.size)); clear ho hb))
  refine wp_loop_rounds 1 ?_
  rw [rounds_succ]
  go_wp2
  go_ret
  exact ⟨A', c', rfl, B3.out⟩
/-- the least first and second numbers of a list -/
def lx (f : Nat → C3) (n : Nat) : Int := lo (fun k => (f k).1) n
def ly (f : Nat → C3) (n : Nat) : Int := lo (fun k => (f k).2.1) n
theorem home_any (A : Option Addr) (n c : Nat) (f : Nat → C3) (w : World) (h : CReads w w.heap.size A n f) (hok : OkL f n) :
    Calls Tryd.prog 11 #[.slice A n c] w fun e w' => ∃ A' c', e = .returned (.slice A' n c') ∧ CReads w' w'.heap.size A' n (mv (-(lx f n)) (-(ly f n)) f) ∧ Below w.heap.size w w' := by
  rcases Nat.eq_zero_or_pos n with e | e
  · subst e
    exact (home_none A c w).mono fun e w' ⟨A', c', he, hb⟩ => ⟨A', c', he, fun h => absurd h (by omega), hb⟩
  · exact home_some A n c f w h hok e
end Go.Proofs.YtobaabankhpfjaaDoor
