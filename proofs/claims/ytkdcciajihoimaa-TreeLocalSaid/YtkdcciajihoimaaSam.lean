/- The walks of sameNode, EqualFunc and Same at trees that are the same. -/
import Derived.Test.YtkdcciajihoimaaCon
namespace Go.Proofs.Ytkdcciajihoimaa
open Go.RowKit

theorem same_node (A A2 : Option Addr) (c c2 : Nat) (X : List Int) (l : Int) (w : World) (h : Reads w w.heap.size A X.length (il X)) (h2 : Reads w w.heap.size A2 X.length (il X)) (hn : X.length ≤ 1000) :
    Calls Try.prog 27 #[.agg #[.int .i64 l, .slice A X.length c], .agg #[.int .i64 l, .slice A2 X.length c2]] w fun e w' => e = .returned (.bool true) ∧ Below w.heap.size w w' := by
  have E := fun w' (hb : Below w.heap.size w w') => Lib.hid (iequal_yes A A2 X.length c c2 X w' (h.later hb) (h2.later hb) (by omega))
  have B0 := Lib.hid (((Below.refl w.heap.size w).alloc (Nat.le_refl _) (.cells #[.int .i64 l, .slice A X.length c] 30)).alloc (by simp) (.cells #[.int .i64 l, .slice A2 X.length c2] 30))
  have E1 := E _ B0.out
  have K1 := (Blk.new w 30 #[.int .i64 l, .slice A X.length c]).alloc (.cells #[.int .i64 l, .slice A2 X.length c2] 30)
  have K2 := Blk.new (w.alloc (.cells #[.int .i64 l, .slice A X.length c] 30)) 30 #[.int .i64 l, .slice A2 X.length c2]
  rw [World.size_alloc] at K2
  obtain ⟨p0, p1, _⟩ := K1.two
  obtain ⟨q0, q1, _⟩ := K2.two
  clear E h h2 K1 K2
  generalize X.length = n at *
  go_enter Try.func27, Try.ntmps27
  go_wp2_with (go_at_call 32; (with_reducible refine E1.out.mono ?_); rintro e w1 ⟨rfl, hb⟩; have B1 := Lib.hid (B0.out.trans (hb.mono B0.out.size)); clear hb)
  go_ret
  exact ⟨rfl, B1.out⟩
set_option maxRecDepth 100000 in
set_option maxHeartbeats 1000000 in
theorem same_nodes (A A2 : Option Addr) (n c c2 : Nat) (lv : Nat → Int) (nx : Nat → List Int) (w : World) (h : NR w w.heap.size A n lv nx) (h2 : NR w w.heap.size A2 n lv nx) (hn : n ≤ 5000) (hl : ∀ k, k < n → (nx k).length ≤ 1000) :
    Calls Try.prog 26 #[.slice A n c, .slice A2 n c2, .func (.func 27) #[] #[]] w fun e w' => e = .returned (.bool true) ∧ Below w.heap.size w w' := by
  have H := Lib.hid h
  have H2 := Lib.hid h2
  have L := Lib.hid hl
  clear h h2 hl
  go_enter Try.func26, Try.ntmps26
  go_wp2
  go_loopw [17] (fun jv wr => ∃ j : Nat, j ≤ n ∧ jv = .int .i64 (j : Int) ∧ Below w.heap.size w wr) (fun jv _ => n - (intOf jv).toNat)
  case atStart => exact ⟨0, Nat.zero_le _, rfl, Below.refl _ _⟩
  case round =>
    obtain ⟨j, hj, rfl, hb⟩ := hrel
    by_cases hjn : j < n
    · obtain ⟨g, o, rfl, hlt, hc⟩ := H.out (by omega)
      obtain ⟨A', c', h1, h2, h4⟩ := hc j hjn
      obtain ⟨g2, o2, rfl, hlt2, hc2⟩ := H2.out (by omega)
      obtain ⟨A3, c3, y1, y2, y4⟩ := hc2 j hjn
      have h3 := (hb.cell (p := ⟨g, o + j * 2, none⟩) hlt).trans h1
      have h5 := (hb.cell (p := ⟨g, o + j * 2 + 1, none⟩) hlt).trans h2
      have y3 := (hb.cell (p := ⟨g2, o2 + j * 2, none⟩) hlt2).trans y1
      have y5 := (hb.cell (p := ⟨g2, o2 + j * 2 + 1, none⟩) hlt2).trans y2
      have BA1 := (Below.refl wr.heap.size wr).alloc (Nat.le_refl _) (.cells #[.int .i64 (lv j), .slice A' (nx j).length c'] 30)
      have BA := Lib.hid (BA1.alloc (by simp) (.cells #[.int .i64 (lv j), .slice A3 (nx j).length c3] 30))
      have gl2 : g2 < wr.heap.size := Nat.lt_of_lt_of_le hlt2 hb.size
      have r3 := (BA1.cell (p := ⟨g2, o2 + j * 2, none⟩) gl2).trans y3
      have r5 := (BA1.cell (p := ⟨g2, o2 + j * 2 + 1, none⟩) gl2).trans y5
      have K1 := (Blk.new wr 30 #[.int .i64 (lv j), .slice A' (nx j).length c']).alloc (.cells #[.int .i64 (lv j), .slice A3 (nx j).length c3] 30)
      obtain ⟨n1, n2, _⟩ := K1.two
      clear K1 BA1 y3 y5
      have E := Lib.hid (same_node A' A3 c' c3 (nx j) (lv j) _ (h4.later (hb.trans (BA.out.mono hb.size))) (y4.later (hb.trans (BA.out.mono hb.size))) (L.out j hjn))
      have HB := Lib.hid hb
      have hjI : (j : Int) < (n : Int) := by omega
      clear hc h1 h2 h4 hb hc2 y1 y2 y4
      generalize (nx j).length = m at *
      generalize lv j = oo at *
      go_wp2_with (go_at_call 27; (with_reducible refine E.out.mono ?_); rintro e w1 ⟨rfl, hb⟩; have B1 := Lib.hid ((HB.out.trans (BA.out.mono HB.out.size)).trans (hb.mono (Nat.le_trans HB.out.size BA.out.size))); clear hb)
      go_roundw
      case rel => exact ⟨j + 1, by omega, by go_num, B1.out⟩
      case measure => simp [intOf]; omega
    · obtain rfl : j = n := by omega
      go_wp2
      go_ret
      exact ⟨rfl, hb⟩
set_option maxRecDepth 100000 in
set_option maxHeartbeats 2000000 in
theorem tsame_yes (AH AH2 AN AN2 : Option Addr) (cH cH2 cN cN2 : Nat) (T : Tr) (w : World) (h : TS w AH AN T) (h2 : TS w AH2 AN2 T) (hn : T.n ≤ 1000) (hm : T.m ≤ 5000) (hl : ∀ k, k < T.m → (T.nx k).length ≤ 1000) :
    Calls Try.prog 12 #[.agg #[.int .i64 T.st, .slice AH T.n cH, .slice AN T.m cN], .agg #[.int .i64 T.st, .slice AH2 T.n cH2, .slice AN2 T.m cN2]] w fun e w' => e = .returned (.bool true) ∧ Below w.heap.size w w' := by
  have HS := fun w' (hb' : Below w.heap.size w w') => Lib.hid (hsame_any AH AH2 T.n T.n cH cH2 T.f T.f w' (h.later hb').1 (h2.later hb').1 (by omega) (by omega))
  have NS := fun w' (hb' : Below w.heap.size w w') => Lib.hid (same_nodes AN AN2 T.m cN cN2 T.lv T.nx w' (h.later hb').2 (h2.later hb').2 hm hl)
  simp only [sm_self] at HS
  have B0 := Lib.hid (((Below.refl w.heap.size w).alloc (Nat.le_refl _) (.cells #[.int .i64 T.st, .slice AH T.n cH, .slice AN T.m cN] 25)).alloc (by simp) (.cells #[.int .i64 T.st, .slice AH2 T.n cH2, .slice AN2 T.m cN2] 25))
  have K1 := (Blk.new w 25 #[.int .i64 T.st, .slice AH T.n cH, .slice AN T.m cN]).alloc (.cells #[.int .i64 T.st, .slice AH2 T.n cH2, .slice AN2 T.m cN2] 25)
  have K2 := Blk.new (w.alloc (.cells #[.int .i64 T.st, .slice AH T.n cH, .slice AN T.m cN] 25)) 25 #[.int .i64 T.st, .slice AH2 T.n cH2, .slice AN2 T.m cN2]
  rw [World.size_alloc] at K2
  have H1 := HS _ B0.out
  obtain ⟨p0, p1, p2, _⟩ := K1.three
  obtain ⟨q0, q1, q2, _⟩ := K2.three
  have K1 := Lib.hid K1
  have K2 := Lib.hid K2
  clear h h2 HS
  generalize T.n = n at *
  generalize T.m = m at *
  generalize T.st = st at *
  go_enter Try.func12, Try.ntmps12
  go_wp2_with (first
    | (go_at_call 25; (with_reducible refine H1.out.mono ?_); rintro e w1 ⟨rfl, hb⟩; have B1 := Lib.hid (B0.out.trans (hb.mono B0.out.size)); have J1 := Lib.hid (K1.out.below hb K1.out.lt); have J2 := Lib.hid (K2.out.below hb K2.out.lt); obtain ⟨_, _, a3, _⟩ := J1.out.three; obtain ⟨_, _, b3, _⟩ := J2.out.three; clear hb)
    | (go_at_call 26; (with_reducible refine (NS _ B1.out).out.mono ?_); rintro e w2 ⟨rfl, hb⟩; have B2 := Lib.hid (B1.out.trans (hb.mono B1.out.size)); clear hb))
  go_ret
  exact ⟨rfl, B2.out⟩
end Go.Proofs.Ytkdcciajihoimaa
