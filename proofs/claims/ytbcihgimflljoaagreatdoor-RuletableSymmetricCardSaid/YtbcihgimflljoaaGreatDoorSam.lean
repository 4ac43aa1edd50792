/- The walks of sameRow and EqualFunc at lists that are the same. -/
import Derived.Test.YtbcihgimflljoaaGreatDoorExm
namespace Go.Proofs.YtbcihgimflljoaaGreatDoor
open Go.RowKit

theorem same_row (A : Option Addr) (c : Nat) (l : List Int) (o : Int) (w : World) (h : Reads w w.heap.size A l.length (il l)) (hn : l.length ≤ 1000) :
    Calls Tryz.prog 42 #[.agg #[.slice A l.length c, .int .i64 o], .agg #[.slice A l.length c, .int .i64 o]] w fun e w' => e = .returned (.bool true) ∧ Below w.heap.size w w' := by
  have E := fun w' (hb : Below w.heap.size w w') => Lib.hid (iequal_yes A A l.length c c l w' (h.later hb) (h.later hb) (by omega))
  have B0 := Lib.hid (((Below.refl w.heap.size w).alloc (Nat.le_refl _) (.cells #[.slice A l.length c, .int .i64 o] 40)).alloc (by simp) (.cells #[.slice A l.length c, .int .i64 o] 40))
  have E1 := E _ B0.out
  have K1 := (Blk.new w 40 #[.slice A l.length c, .int .i64 o]).alloc (.cells #[.slice A l.length c, .int .i64 o] 40)
  have K2 := Blk.new (w.alloc (.cells #[.slice A l.length c, .int .i64 o] 40)) 40 #[.slice A l.length c, .int .i64 o]
  rw [World.size_alloc] at K2
  have K1 := Lib.hid K1
  have K2 := Lib.hid K2
  generalize l.length = n at *
  clear E h
  go_enter Tryz.func42, Tryz.ntmps42
  go_wp2_with (go_at_call 40; (with_reducible refine E1.out.mono ?_); rintro e w1 ⟨rfl, hb⟩; have B1 := Lib.hid (B0.out.trans (hb.mono B0.out.size)); have M1 := (K1.out.below hb K1.out.lt).two; have M2 := (K2.out.below hb K2.out.lt).two; obtain ⟨_, m1, _⟩ := M1; obtain ⟨_, m2, _⟩ := M2; clear hb)
  go_ret
  exact ⟨rfl, B1.out⟩
set_option maxRecDepth 100000 in
theorem same_vars (A : Option Addr) (n c : Nat) (v : Nat → List Int) (w : World) (h : VR w w.heap.size A n v) (hn : n ≤ 1000) (hl : ∀ k, k < n → (v k).length ≤ 1000) :
    Calls Tryz.prog 39 #[.slice A n c, .slice A n c, .func (.func 40) #[] #[]] w fun e w' => e = .returned (.bool true) ∧ Below w.heap.size w w' := by
  have H := Lib.hid h
  have L := Lib.hid hl
  have eg := enters_of Tryz.func40 (by kernel_rfl) rfl
  clear h hl
  go_enter Tryz.func39, Tryz.ntmps39
  go_wp2
  go_loopw [17] (fun jv wr => ∃ j : Nat, j ≤ n ∧ jv = .int .i64 (j : Int) ∧ Below w.heap.size w wr) (fun jv _ => n - (intOf jv).toNat)
  case atStart => exact ⟨0, Nat.zero_le _, rfl, Below.refl _ _⟩
  case round =>
    obtain ⟨j, hj, rfl, hb⟩ := hrel
    by_cases hjn : j < n
    · obtain ⟨ad, rfl, hlt, hc⟩ := H.out (by omega)
      obtain ⟨A', c', h1, h2⟩ := hc j hjn
      have h3 := (hb.cell (p := ad.add j) (by rw [block_of_add]; exact hlt)).trans h1
      have E := Lib.hid (iequal_yes A' A' (v j).length c' c' (v j) wr (h2.later hb) (h2.later hb) (by have := L.out j hjn; omega))
      have HB := Lib.hid hb
      have hjI : (j : Int) < (n : Int) := by omega
      clear hc h1 h2 hb
      generalize (v j).length = m at *
      go_wp2_with (with_reducible refine E.out.mono ?_; rintro e w1 ⟨rfl, hb⟩; have B1 := Lib.hid (HB.out.trans (hb.mono HB.out.size)); clear hb)
      go_roundw
      case rel => exact ⟨j + 1, by omega, by go_num, B1.out⟩
      case measure => simp [intOf]; omega
    · obtain rfl : j = n := by omega
      go_wp2
      go_ret
      exact ⟨rfl, hb⟩
set_option maxRecDepth 100000 in
theorem same_rows (A : Option Addr) (n c : Nat) (ri : Nat → List Int) (ro : Nat → Int) (w : World) (h : RR w w.heap.size A n ri ro) (hn : n ≤ 1000) (hl : ∀ k, k < n → (ri k).length ≤ 1000) :
    Calls Tryz.prog 41 #[.slice A n c, .slice A n c, .func (.func 42) #[] #[]] w fun e w' => e = .returned (.bool true) ∧ Below w.heap.size w w' := by
  have H := Lib.hid h
  have L := Lib.hid hl
  have eg := enters_of Tryz.func42 (by kernel_rfl) rfl
  clear h hl
  go_enter Tryz.func41, Tryz.ntmps41
  go_wp2
  go_loopw [17] (fun jv wr => ∃ j : Nat, j ≤ n ∧ jv = .int .i64 (j : Int) ∧ Below w.heap.size w wr) (fun jv _ => n - (intOf jv).toNat)
  case atStart => exact ⟨0, Nat.zero_le _, rfl, Below.refl _ _⟩
  case round =>
    obtain ⟨j, hj, rfl, hb⟩ := hrel
    by_cases hjn : j < n
    · obtain ⟨g, o, rfl, hlt, hc⟩ := H.out (by omega)
      obtain ⟨A', c', h1, h2, h4⟩ := hc j hjn
      have h3 := (hb.cell (p := ⟨g, o + j * 2, none⟩) hlt).trans h1
      have h5 := (hb.cell (p := ⟨g, o + j * 2 + 1, none⟩) hlt).trans h4
      have BA1 := (Below.refl wr.heap.size wr).alloc (Nat.le_refl _) (.cells #[.slice A' (ri j).length c', .int .i64 (ro j)] 40)
      have BA := Lib.hid (BA1.alloc (by simp) (.cells #[.slice A' (ri j).length c', .int .i64 (ro j)] 40))
      have gl : g < wr.heap.size := Nat.lt_of_lt_of_le hlt hb.size
      have r3 := (BA1.cell (p := ⟨g, o + j * 2, none⟩) gl).trans h3
      have r5 := (BA1.cell (p := ⟨g, o + j * 2 + 1, none⟩) gl).trans h5
      have K1 := (Blk.new wr 40 #[.slice A' (ri j).length c', .int .i64 (ro j)]).alloc (.cells #[.slice A' (ri j).length c', .int .i64 (ro j)] 40)
      obtain ⟨n1, n2, _⟩ := K1.two
      clear K1 BA1
      have E := Lib.hid (same_row A' c' (ri j) (ro j) _ (h2.later (hb.trans (BA.out.mono hb.size))) (L.out j hjn))
      have HB := Lib.hid hb
      have hjI : (j : Int) < (n : Int) := by omega
      clear hc h1 h2 h4 hb
      generalize (ri j).length = m at *
      generalize ro j = oo at *
      go_wp2_with (with_reducible refine E.out.mono ?_; rintro e w1 ⟨rfl, hb⟩; have B1 := Lib.hid ((HB.out.trans (BA.out.mono HB.out.size)).trans (hb.mono (Nat.le_trans HB.out.size BA.out.size))); clear hb)
      go_roundw
      case rel => exact ⟨j + 1, by omega, by go_num, B1.out⟩
      case measure => simp [intOf]; omega
    · obtain rfl : j = n := by omega
      go_wp2
      go_ret
      exact ⟨rfl, hb⟩
set_option maxRecDepth 100000 in
set_option maxHeartbeats 2000000 in
theorem same_self (AH : Option Addr) (cH : Nat) (AV : Option Addr) (cV : Nat) (AR : Option Addr) (cR : Nat) (T : Tab) (w : World) (h : TR w AH AV AR T) (hb : Bd T) :
    Calls Tryz.prog 20 #[.agg #[.int .i64 T.st, .int .i64 T.sy, .slice AH T.n cH, .slice AV T.nv cV, .slice AR T.nr cR], .agg #[.int .i64 T.st, .int .i64 T.sy, .slice AH T.n cH, .slice AV T.nv cV, .slice AR T.nr cR]] w fun e w' => e = .returned (.bool true) ∧ Below w.heap.size w w' := by
  have HS := fun w' (hb' : Below w.heap.size w w') => Lib.hid (hsame_any AH AH T.n T.n cH cH T.f T.f w' (h.later hb').1 (h.later hb').1 (by have := hb.1; omega) (by have := hb.1; omega))
  have VS := fun w' (hb' : Below w.heap.size w w') => Lib.hid (same_vars AV T.nv cV T.v w' (h.later hb').2.1 hb.2.1 hb.2.2.2.1)
  have RS := fun w' (hb' : Below w.heap.size w w') => Lib.hid (same_rows AR T.nr cR T.ri T.ro w' (h.later hb').2.2 hb.2.2.1 hb.2.2.2.2)
  simp only [sm_self] at HS
  have B0 := Lib.hid (((Below.refl w.heap.size w).alloc (Nat.le_refl _) (.cells #[.int .i64 T.st, .int .i64 T.sy, .slice AH T.n cH, .slice AV T.nv cV, .slice AR T.nr cR] 26)).alloc (by simp) (.cells #[.int .i64 T.st, .int .i64 T.sy, .slice AH T.n cH, .slice AV T.nv cV, .slice AR T.nr cR] 26))
  have K1 := (Blk.new w 26 #[.int .i64 T.st, .int .i64 T.sy, .slice AH T.n cH, .slice AV T.nv cV, .slice AR T.nr cR]).alloc (.cells #[.int .i64 T.st, .int .i64 T.sy, .slice AH T.n cH, .slice AV T.nv cV, .slice AR T.nr cR] 26)
  have K2 := Blk.new (w.alloc (.cells #[.int .i64 T.st, .int .i64 T.sy, .slice AH T.n cH, .slice AV T.nv cV, .slice AR T.nr cR] 26)) 26 #[.int .i64 T.st, .int .i64 T.sy, .slice AH T.n cH, .slice AV T.nv cV, .slice AR T.nr cR]
  rw [World.size_alloc] at K2
  have H1 := HS _ B0.out
  have K1 := Lib.hid K1
  have K2 := Lib.hid K2
  clear h hb HS
  generalize T.n = n at *
  generalize T.nv = nv at *
  generalize T.nr = nr at *
  generalize T.st = st at *
  generalize T.sy = sy at *
  go_enter Tryz.func20, Tryz.ntmps20
  go_wp2_with (first
    | (go_at_call 38; (with_reducible refine H1.out.mono ?_); rintro e w1 ⟨rfl, hb⟩; have B1 := Lib.hid (B0.out.trans (hb.mono B0.out.size)); have J1 := Lib.hid (K1.out.below hb K1.out.lt); have J2 := Lib.hid (K2.out.below hb K2.out.lt); obtain ⟨_, _, _, a3, a4, _⟩ := J1.out.five; obtain ⟨_, _, _, b3, b4, _⟩ := J2.out.five; clear hb)
    | (go_at_call 39; (with_reducible refine (VS _ B1.out).out.mono ?_); rintro e w2 ⟨rfl, hb⟩; have B2 := Lib.hid (B1.out.trans (hb.mono B1.out.size)); have G1 := Lib.hid (J1.out.below hb J1.out.lt); have G2 := Lib.hid (J2.out.below hb J2.out.lt); obtain ⟨_, _, _, _, c4, _⟩ := G1.out.five; obtain ⟨_, _, _, _, d4, _⟩ := G2.out.five; clear hb)
    | (go_at_call 41; (with_reducible refine (RS _ B2.out).out.mono ?_); rintro e w3 ⟨rfl, hb⟩; have B3 := Lib.hid (B2.out.trans (hb.mono B2.out.size)); clear hb))
  go_ret
  exact ⟨rfl, B3.out⟩
end Go.Proofs.YtbcihgimflljoaaGreatDoor
