/- The walks of ruletable's readStates, readSymmetry, readHood, offsets at the words of the examples. -/
/- The walk of ruletable's readSymmetry at the words of the examples. -/
import Derived.Test.YtbcihgimflljoaaGreatDoorNmb
import Derived.Test.YtbcihgimflljoaaGreatDoorPermit
import Derived.Test.YtbcihgimflljoaaGreatDoorUsual
namespace Go.Proofs.YtbcihgimflljoaaGreatDoor
open Go.RowKit Go.Shelf

/-- the words of the lines of the examples -/
def wStates : List UInt8 := [115, 116, 97, 116, 101, 115]
def wHood : List UInt8 := [104, 111, 111, 100]
def wSymmetry : List UInt8 := [115, 121, 109, 109, 101, 116, 114, 121]
def wLine : List UInt8 := [108, 105, 110, 101]
def wHex : List UInt8 := [104, 101, 120]
def wNone : List UInt8 := [110, 111, 110, 101]
def wRotate : List UInt8 := [114, 111, 116, 97, 116, 101]
def wVar : List UInt8 := [118, 97, 114]
def wArrow : List UInt8 := [45, 62]
theorem teqs (l r : List UInt8) (b : Bool) (h : (l == r) = b) : ((tx l).toList == r) = b := by rw [Lib.toList_data, tx_data]; exact h
set_option maxRecDepth 100000 in
theorem states_told (w : World) (R : Nat) (sy : Int) (h v r nm : Value) :
    Told 61 w R (One R) [tx wStates, tx [50]] (rb 1 0 sy h v r nm) 0 (fun _ : Unit => rb 1 2 sy h v r nm) (fun _ _ => True) (fun _ => True) := by
  intro W g cap cur hg HR HG hne hcur hcap
  have C0 := HG.cell 0
  have C1 := HG.cell 1
  rw [hcur 0 _ rfl] at C0
  rw [hcur 1 _ rfl] at C1
  have NB := fun w => Lib.hid (number_ok (l := [50]) (d := 2) (by decide) (by decide +kernel) (by decide) (by decide) w)
  have e0 := teqs wStates [115, 116, 97, 116, 101, 115] true (by decide)
  generalize tx wStates = s0 at C0 e0
  generalize tx [50] = s1 at C1 NB
  have HRH := Lib.hid HR
  have hgH := Lib.hid hg
  clear HR hg HG hcur
  go_enter Tryz.func61, Tryz.ntmps61
  go_wp2_with (go_at_call 88; (with_reducible refine (NB _).out.mono ?_); rintro e w1 ⟨rfl, hb⟩; have B := Lib.hid hb; clear hb; have HR1 := Lib.hid (HRH.out.below B.out HRH.out.lt); have K1 := HR1.out.cell 1; have F1 := HR1.out.frozen 1; simp only [rb] at K1)
  go_ret
  exact ⟨(), trivial, rfl, grw_one (grown_trans (grown_below B.out) (grown_set _ _ _ _)), HR1.out.set_ 1 _, trivial⟩
set_option maxRecDepth 100000 in
theorem offsets_line (w : World) :
    Calls Tryz.prog 67 #[.string (tx wLine)] w fun e w' => e = .returned (.slice (some ⟨w.heap.size, 0, none⟩) 3 3) ∧ w' = w.alloc (.cells #[.int .i64 (-1), .int .i64 0, .int .i64 0, .int .i64 0, .int .i64 1, .int .i64 0] 35) := by
  have e0 := teqs wLine [109, 111, 111, 114, 101] false (by decide)
  have e1 := teqs wLine [110, 101, 117, 109, 97, 110, 110] false (by decide)
  have e2 := teqs wLine [104, 101, 120] false (by decide)
  have e3 := teqs wLine [108, 105, 110, 101] true (by decide)
  generalize tx wLine = s at e0 e1 e2 e3 ⊢
  go_enter Tryz.func67, Tryz.ntmps67
  go_wp2
  go_ret
  exact ⟨rfl, rfl⟩
set_option maxRecDepth 100000 in
theorem offsets_moore (w : World) :
    Calls Tryz.prog 67 #[.string (tx [109, 111, 111, 114, 101])] w fun e w' => ∃ A c, e = .returned (.slice A 9 c) ∧ QReads w' w'.heap.size A 9 (lf M1) ∧ Below w.heap.size w w' := by
  have C := Lib.hid (moore1 w)
  have e0 := teqs [109, 111, 111, 114, 101] [109, 111, 111, 114, 101] true (by decide)
  generalize tx [109, 111, 111, 114, 101] = s at e0 ⊢
  go_enter Tryz.func67, Tryz.ntmps67
  go_wp2_with (go_at_call 92; (with_reducible refine C.out.mono ?_); rintro e w1 ⟨A, c, rfl, h1, h2⟩; have H1 := Lib.hid h1; have H2 := Lib.hid h2; clear h1 h2)
  go_ret
  exact ⟨A, c, rfl, H1.out, H2.out⟩
set_option maxRecDepth 100000 in
theorem offsets_neumann (w : World) :
    Calls Tryz.prog 67 #[.string (tx [110, 101, 117, 109, 97, 110, 110])] w fun e w' => ∃ A c, e = .returned (.slice A 5 c) ∧ QReads w' w'.heap.size A 5 (lf N1) ∧ Below w.heap.size w w' := by
  have C := Lib.hid (neumann1 w)
  have e0 := teqs [110, 101, 117, 109, 97, 110, 110] [109, 111, 111, 114, 101] false (by decide)
  have e1 := teqs [110, 101, 117, 109, 97, 110, 110] [110, 101, 117, 109, 97, 110, 110] true (by decide)
  generalize tx [110, 101, 117, 109, 97, 110, 110] = s at e0 e1 ⊢
  go_enter Tryz.func67, Tryz.ntmps67
  go_wp2_with (go_at_call 93; (with_reducible refine C.out.mono ?_); rintro e w1 ⟨A, c, rfl, h1, h2⟩; have H1 := Lib.hid h1; have H2 := Lib.hid h2; clear h1 h2)
  go_ret
  exact ⟨A, c, rfl, H1.out, H2.out⟩
set_option maxRecDepth 100000 in
theorem offsets_hex (w : World) :
    Calls Tryz.prog 67 #[.string (tx wHex)] w fun e w' => ∃ A c, e = .returned (.slice A 7 c) ∧ QReads w' w'.heap.size A 7 (lf HX) ∧ Below w.heap.size w w' := by
  have C := Lib.hid (hex_any w)
  have e0 := teqs wHex [109, 111, 111, 114, 101] false (by decide)
  have e1 := teqs wHex [110, 101, 117, 109, 97, 110, 110] false (by decide)
  have e2 := teqs wHex [104, 101, 120] true (by decide)
  generalize tx wHex = s at e0 e1 e2 ⊢
  go_enter Tryz.func67, Tryz.ntmps67
  go_wp2_with (go_at_call 94; (with_reducible refine C.out.mono ?_); rintro e w1 ⟨A, c, rfl, h1, h2⟩; have H1 := Lib.hid h1; have H2 := Lib.hid h2; clear h1 h2)
  go_ret
  exact ⟨A, c, rfl, H1.out, H2.out⟩

/-- the three positions of a line -/
def ln3 : Array Value := #[.int .i64 (-1), .int .i64 0, .int .i64 0, .int .i64 0, .int .i64 1, .int .i64 0]
set_option maxRecDepth 100000 in
theorem hood_line (w : World) (R : Nat) (st sy : Int) (v r nm : Value) :
    Told 62 w R (One R) [tx wHood, tx wLine] (rb 2 st sy (.slice none 0 0) v r nm) 0 (fun H : Nat => rb 2 st sy (.slice (some ⟨H, 0, none⟩) 3 3) v r nm) (fun H w' => Blk w' H 35 ln3) (fun H => R < H) := by
  intro W g cap cur hg HR HG hne hcur hcap
  have C0 := HG.cell 0
  have C1 := HG.cell 1
  rw [hcur 0 _ rfl] at C0
  rw [hcur 1 _ rfl] at C1
  have NB := fun w => Lib.hid (offsets_line w)
  have e0 := teqs wHood [104, 111, 111, 100] true (by decide)
  generalize tx wHood = s0 at C0 e0
  generalize tx wLine = s1 at C1 NB
  have HR1 := HR.alloc (.cells ln3 35)
  have K1 := HR1.cell 3
  have F1 := HR1.frozen 3
  simp only [rb] at K1
  have HB := Below.alloc (Below.refl W.heap.size W) (Nat.le_refl _) (.cells ln3 35)
  have HN := Blk.new W 35 ln3
  have hRl := HR.lt
  have HR2 := HR1.set_ 3 (.slice (some ⟨W.heap.size, 0, none⟩) 3 3)
  have K2 := HR2.cell 3
  have HNF := HN.far (p := ⟨R, 3, none⟩) (by show W.heap.size ≠ R; omega) (.slice (some ⟨W.heap.size, 0, none⟩) 3 3)
  have HGR := grown_trans (grown_below HB) (grown_set (W.alloc (.cells ln3 35)) R 3 (.slice (some ⟨W.heap.size, 0, none⟩) 3 3))
  have h1 := Lib.hid HR2
  have h2 := Lib.hid HNF
  have h3 := Lib.hid HGR
  clear hg HR HG hcur HR1 HB HN HR2 HNF HGR
  unfold ln3 at *
  generalize hW1 : W.alloc (.cells #[.int .i64 (-1), .int .i64 0, .int .i64 0, .int .i64 0, .int .i64 1, .int .i64 0] 35) = W1 at *
  simp only [rb] at K2
  have q22 : ∀ (w : World) (a : Option Addr) (n c n' c' : Nat), (binOp .eql 22 (.slice a n c) (.slice none n' c')).run Tryz.prog w = .ok (.bool a.isNone) w := fun w a n c n' c' => Lib.run_eql_slice_nil w _ _ a n c n' c' Tryz.underlying22
  go_enter Tryz.func62, Tryz.ntmps62
  go_wp2_with (go_at_call 67; (with_reducible refine (NB _).out.mono ?_); rintro e w1 ⟨rfl, hw⟩; rw [hW1] at hw; rw [hw])
  go_ret
  exact ⟨W.heap.size, by omega, rfl, grw_one h3.out, h1.out, h2.out⟩

/-- a list of as many positions as a reader has no numbers for lies in another block -/
theorem reads_ne {w : World} {R g o B : Nat} {k st sy : Int} {h v r nm : Value} {f : Nat → P2} {n : Nat} (hn : 4 ≤ n) (HR : Blk w R 73 (rb k st sy h v r nm)) (H : QReads w B (some ⟨g, o, none⟩) n f) : g ≠ R := by
  rintro rfl
  obtain ⟨g', o', e, _, hc⟩ := H (by omega)
  cases e
  have h1 := (hc (n - 1) (by omega)).2
  rw [HR.cell, Array.getElem?_eq_none (by simp [rb]; omega)] at h1
  cases h1
theorem QReads.grown {w w' : World} {R B n : Nat} {A : Option Addr} {f : Nat → P2} (H : QReads w B A n f) (hg : w.grownBy w' (some R)) (hne : ∀ g o, A = some ⟨g, o, none⟩ → g ≠ R) (hB : B ≤ w.heap.size) : QReads w' w'.heap.size A n f := fun hn => by
  obtain ⟨g, o, e, hgB, hc⟩ := H hn
  have hb : ∀ i, w'.cell? ⟨g, i, none⟩ = w.cell? ⟨g, i, none⟩ := fun i => World.cell?_of_block (hg.block g (by omega) (fun e' => hne g o e (by cases e'; rfl)))
  exact ⟨g, o, e, by have := hg.size; omega, fun k hk => by rw [hb, hb]; exact hc k hk⟩
theorem QReads.stays (A : Option Addr) (n : Nat) (f : Nat → P2) : Stays (fun w => QReads w w.heap.size A n f) := fun w D y o h1 h2 h3 => fun hn => by
  obtain ⟨g, o', e, hgB, hc⟩ := h3 hn
  have hs := (grownBy_putObj' w D o).size
  refine ⟨g, o', e, by omega, fun k hk => ⟨?_, ?_⟩⟩
  · exact cell_kept (hc k hk).1 (grownBy_putObj' w D o) (fun r e' => by cases e'; exact ⟨y, h1, h2⟩)
  · exact cell_kept (hc k hk).2 (grownBy_putObj' w D o) (fun r e' => by cases e'; exact ⟨y, h1, h2⟩)
set_option maxRecDepth 100000 in
theorem hood_hex (w : World) (R : Nat) (st sy : Int) (v r nm : Value) :
    Told 62 w R (One R) [tx wHood, tx wHex] (rb 2 st sy (.slice none 0 0) v r nm) 0 (fun X : Option Addr × Nat => rb 2 st sy (.slice X.1 7 X.2) v r nm) (fun X w' => QReads w' w'.heap.size X.1 7 (lf HX)) (fun _ => True) := by
  intro W g cap cur hg HR HG hne hcur hcap
  have C0 := HG.cell 0
  have C1 := HG.cell 1
  rw [hcur 0 _ rfl] at C0
  rw [hcur 1 _ rfl] at C1
  have NB := fun w => Lib.hid (offsets_hex w)
  have e0 := teqs wHood [104, 111, 111, 100] true (by decide)
  generalize tx wHood = s0 at C0 e0
  generalize tx wHex = s1 at C1 NB
  have HRH := Lib.hid HR
  clear hg HR HG hcur
  have q22 : ∀ (w : World) (a : Option Addr) (n c n' c' : Nat), (binOp .eql 22 (.slice a n c) (.slice none n' c')).run Tryz.prog w = .ok (.bool a.isNone) w := fun w a n c n' c' => Lib.run_eql_slice_nil w _ _ a n c n' c' Tryz.underlying22
  go_enter Tryz.func62, Tryz.ntmps62
  go_wp2_with (go_at_call 67; (with_reducible refine (NB _).out.mono ?_); rintro e w1 ⟨A, c, rfl, hq, hb⟩; have B := Lib.hid hb; have Q := Lib.hid hq; clear hb hq; have HR1 := Lib.hid (HRH.out.below B.out HRH.out.lt); have K1 := HR1.out.cell 3; have F1 := HR1.out.frozen 3; have HR2 := Lib.hid (HR1.out.set_ 3 (.slice A 7 c)); have K2 := HR2.out.cell 3; have hA : A.isNone = false := (by obtain ⟨_, _, e, _⟩ := Q.out (by omega); rw [e]; rfl); simp only [rb] at K1 K2)
  go_ret
  have hne := fun g o (e : A = some ⟨g, o, none⟩) => reads_ne (by omega) HR1.out (e ▸ Q.out)
  exact ⟨(A, c), trivial, rfl, grw_one (grown_trans (grown_below B.out) (grown_set _ _ _ _)), HR2.out, Q.out.grown (grown_set _ _ _ _) hne (Nat.le_refl _)⟩
end Go.Proofs.YtbcihgimflljoaaGreatDoor
namespace Go.Proofs.YtbcihgimflljoaaGreatDoor
open Go.RowKit Go.Shelf

def LN : List P2 := [(-1, 0), (0, 0), (1, 0)]
theorem reads_ln {w : World} {H B : Nat} (h : Blk w H 35 ln3) (hB : H < B) : QReads w B (some ⟨H, 0, none⟩) 3 (lf LN) := fun _ =>
  ⟨H, 0, rfl, hB, fun k hk => by
    rw [h.cell, h.cell]
    match k, hk with
    | 0, _ => exact ⟨rfl, rfl⟩
    | 1, _ => exact ⟨rfl, rfl⟩
    | 2, _ => exact ⟨rfl, rfl⟩⟩
/-- an element of one cell of an array by value -/
theorem run_index_one {P : Program} {t e : TypeId} {n : Nat} {i0 : TypeInfo} (ht : P.underlying t = some (.array n e)) (ha : ∀ w, (isAgg e).run P w = .ok false w)
    (hi : P.info? e = some i0) (hz : i0.size = 1) (w : World) (cs : Array Value) (k : IntKind) (i : Nat) (h1 : i < n) (v : Value) (hv : cs[i]? = some v) :
    (Instr.index t (.agg cs) (.int k (i : Int))).run P w = .ok v w := by
  have h2 : (i : Int) < (n : Int) := by omega
  have hc : P.cellsOf e = 1 := by simp [Program.cellsOf, hi, hz]
  simp [Instr.index, run_underlying ht, asIntOf, go_sem, run_sizeOf w hi, hz, part, ha, hc, hv, h1]
theorem four_at (a b c d : ByteArray) : (∀ w, (Instr.index 84 (.agg #[.string a, .string b, .string c, .string d]) (.int .i64 0)).run Tryz.prog w = .ok (.string a) w) ∧ (∀ w, (Instr.index 84 (.agg #[.string a, .string b, .string c, .string d]) (.int .i64 1)).run Tryz.prog w = .ok (.string b) w) := by
  obtain ⟨i0, hi, hz0, hz1, hz2⟩ := str_parts
  exact ⟨fun w => run_index_one Tryz.underlying84 (run_isAgg_plain Tryz.underlying9 rfl) hi hz1 w _ .i64 0 (by decide) _ rfl, fun w => run_index_one Tryz.underlying84 (run_isAgg_plain Tryz.underlying9 rfl) hi hz1 w _ .i64 1 (by decide) _ rfl⟩
set_option maxRecDepth 100000 in
theorem sym_none (m : Int) (u : TypeId) (x : Value) (w : World) (V : Vr m u x w) (R H : Nat) (hRV : 7 < R) (HH : Blk w H 35 ln3) (hHR : H ≠ R) (st : Int) (v r nm : Value) :
    Told 63 w R (One R) [tx wSymmetry, tx wNone] (rb 3 st 0 (.slice (some ⟨H, 0, none⟩) 3 3) v r nm) 0 (fun _ : Unit => rb 3 st 0 (.slice (some ⟨H, 0, none⟩) 3 3) v r nm) (fun _ _ => True) (fun _ => True) := by
  intro W g cap cur hg HR HG hne hcur hcap
  have C0 := HG.cell 0
  have C1 := HG.cell 1
  rw [hcur 0 _ rfl] at C0
  rw [hcur 1 _ rfl] at C1
  have VW := V.grown hg hRV
  have S2 := VW.sn 2 (by omega)
  have S3 := VW.sn 3 (by omega)
  have HHW := HH.grown hg hHR
  have P := Lib.hid (permits_any 0 (some ⟨H, 0, none⟩) 3 3 (lf LN) W VW.mat (reads_ln HHW HHW.lt) (by decide +kernel))
  rw [show pmt (lf LN) 3 0 = true from rfl] at P
  have e0 := teqs wSymmetry [115, 121, 109, 109, 101, 116, 114, 121] true (by decide)
  have S0 : W.cell? ⟨1, 0, none⟩ = some (.string (tx wNone)) := VW.sn 0 (by omega)
  have S1 : W.cell? ⟨1, 1, none⟩ = some (.string (tx wRotate)) := VW.sn 1 (by omega)
  obtain ⟨n2, hn2⟩ : ∃ n2, W.cell? ⟨1, 2, none⟩ = some (.string n2) := ⟨_, S2⟩
  obtain ⟨n3, hn3⟩ : ∃ n3, W.cell? ⟨1, 3, none⟩ = some (.string n3) := ⟨_, S3⟩
  clear S2 S3
  generalize tx wSymmetry = s0 at C0 e0
  generalize tx wNone = s1 at C1 S0
  generalize tx wRotate = s2 at S1
  have HRH := Lib.hid HR
  have K0 := HR.cell 3
  simp only [rb] at K0
  clear hg HR HG hcur HH HHW V VW
  have q4 := (four_at s1 s2 n2 n3).1
  have q5 := (four_at s1 s2 n2 n3).2
  go_enter Tryz.func63, Tryz.ntmps63
  go_wp2
  refine wp_loop_rounds 1 ?_
  rw [rounds_succ]
  go_wp2_with (go_at_call 12; (with_reducible refine P.out.mono ?_); rintro e w1 ⟨rfl, hb⟩; have B := Lib.hid hb; clear hb; have HR1 := Lib.hid (HRH.out.below B.out HRH.out.lt); have K1 := HR1.out.cell 2; have F1 := HR1.out.frozen 2; simp only [rb] at K1)
  go_ret
  exact ⟨(), trivial, rfl, grw_one (grown_trans (grown_below B.out) (grown_set _ _ _ _)), HR1.out.set_ 2 _, trivial⟩
set_option maxRecDepth 100000 in
theorem sym_rotate (m : Int) (u : TypeId) (x : Value) (w : World) (V : Vr m u x w) (R : Nat) (hRV : 7 < R) (A : Option Addr) (c : Nat) (HH : QReads w w.heap.size A 7 (lf HX)) (hHR : ∀ g o, A = some ⟨g, o, none⟩ → g ≠ R) (st : Int) (v r nm : Value) :
    Told 63 w R (One R) [tx wSymmetry, tx wRotate] (rb 3 st 0 (.slice A 7 c) v r nm) 2 (fun _ : Unit => rb 3 st 0 (.slice A 7 c) v r nm) (fun _ _ => True) (fun _ => True) := by
  intro W g cap cur hg HR HG hne hcur hcap
  have C0 := HG.cell 0
  have C1 := HG.cell 1
  rw [hcur 0 _ rfl] at C0
  rw [hcur 1 _ rfl] at C1
  have VW := V.grown hg hRV
  have S2 := VW.sn 2 (by omega)
  have S3 := VW.sn 3 (by omega)
  have HHW := HH.grown hg hHR (Nat.le_refl _)
  have P := Lib.hid (permits_any 1 A 7 c (lf HX) W VW.mat HHW (by decide +kernel))
  rw [show pmt (lf HX) 7 1 = false by decide +kernel] at P
  have e0 := teqs wSymmetry [115, 121, 109, 109, 101, 116, 114, 121] true (by decide)
  have S0 : W.cell? ⟨1, 0, none⟩ = some (.string (tx wNone)) := VW.sn 0 (by omega)
  have S1 : W.cell? ⟨1, 1, none⟩ = some (.string (tx wRotate)) := VW.sn 1 (by omega)
  obtain ⟨n2, hn2⟩ : ∃ n2, W.cell? ⟨1, 2, none⟩ = some (.string n2) := ⟨_, S2⟩
  obtain ⟨n3, hn3⟩ : ∃ n3, W.cell? ⟨1, 3, none⟩ = some (.string n3) := ⟨_, S3⟩
  clear S2 S3
  have en : ((tx wNone).toList == (tx wRotate).toList) = false := by rw [Lib.toList_data, Lib.toList_data, tx_data, tx_data]; decide
  generalize tx wSymmetry = s0 at C0 e0
  generalize tx wNone = s1 at S0 en
  generalize tx wRotate = s2 at S1 C1 en
  have HRH := Lib.hid HR
  have K0 := HR.cell 3
  simp only [rb] at K0
  clear hg HR HG hcur HH HHW V VW
  have q4 := (four_at s1 s2 n2 n3).1
  have q5 := (four_at s1 s2 n2 n3).2
  go_enter Tryz.func63, Tryz.ntmps63
  go_wp2
  refine wp_loop_rounds 2 ?_
  rw [rounds_succ]
  go_wp2
  rw [rounds_succ]
  go_wp2_with (go_at_call 12; (with_reducible refine P.out.mono ?_); rintro e w1 ⟨rfl, hb⟩; have B := Lib.hid hb; clear hb; have HR1 := Lib.hid (HRH.out.below B.out HRH.out.lt))
  go_ret
  exact ⟨(), trivial, rfl, grw_one (grown_below B.out), HR1.out, trivial⟩
end Go.Proofs.YtbcihgimflljoaaGreatDoor
