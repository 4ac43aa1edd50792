/- The walk of ruletable's value at the words of the examples. -/
/- The walk of ruletable's readRow at three elements and a new state. -/
import Derived.Test.YtbcihgimflljoaaGreatDoorRva
namespace Go.Proofs.YtbcihgimflljoaaGreatDoor
open Go.RowKit Go.Shelf

set_option maxRecDepth 100000 in
theorem value_num {l : List UInt8} {d : Nat} (hl : l.length ≤ 18) (h : Lib.atoi l = some (d : Int)) (hd : d < 10) (hdd : [UInt8.ofNat (48 + d)] = l) (hd2 : d < 2) (R : Nat) (k sy : Int) (a b c e : Value) (w : World) (HR : Blk w R 73 (rb k 2 sy a b c e)) :
    Calls Tryz.prog 91 #[.pointer (some ⟨R, 0, none⟩), .string (tx l)] w fun e w' => e = .returned (.tuple #[.int .i64 (d : Int), .int .i64 0]) ∧ Below w.heap.size w w' := by
  have N := Lib.hid (number_ok hl h hd hdd w)
  have hm : (d : Int) < 2 := by omega
  have HRH := Lib.hid HR
  clear HR
  generalize tx l = s at N ⊢
  go_enter Tryz.func91, Tryz.ntmps91
  go_wp2_with (go_at_call 88; (with_reducible refine N.out.mono ?_); rintro e w1 ⟨rfl, hb⟩; have B := Lib.hid hb; clear hb; have HR1 := Lib.hid (HRH.out.below B.out HRH.out.lt); have K1 := HR1.out.cell 1; simp only [rb] at K1)
  go_ret2
  exact ⟨rfl, B.out⟩
theorem index_a (g c : Nat) (uN : Array Value) (w : World) (HN : Blk w g 9 uN) (h0 : uN[0]? = some (.string (tx [97]))) :
    Calls Tryz.prog 118 #[.slice (some ⟨g, 0, none⟩) 1 c, .string (tx [97])] w fun e w' => e = .returned (.int .i64 0) ∧ w = w' :=
  (Any.slices_Index_string layIdx g 0 1 c [tx [97]] (tx [97]) w (by simp) (by omega) (fun j hj => by
    simp only [List.length_cons, List.length_nil] at hj
    obtain rfl : j = 0 := by omega
    rw [HN.cell]
    exact h0)).mono (by rintro e w' ⟨rfl, rfl⟩; exact ⟨by rw [show Lib.idxOfS ([tx [97]].take 1) (tx [97]) = 0 by decide +kernel], rfl⟩)
set_option maxRecDepth 100000 in
theorem value_a (m : Int) (u : TypeId) (x : Value) (R : Nat) (k sy : Int) (a b c : Value) (gN cN : Nat) (uN : Array Value) (w : World) (V : Vr m u x w) (HR : Blk w R 73 (rb k 2 sy a b c (.slice (some ⟨gN, 0, none⟩) 1 cN))) (HN : Blk w gN 9 uN) (h0 : uN[0]? = some (.string (tx [97]))) :
    Calls Tryz.prog 91 #[.pointer (some ⟨R, 0, none⟩), .string (tx [97])] w fun e w' => e = .returned (.tuple #[.int .i64 (-1), .int .i64 0]) ∧ Below w.heap.size w w' := by
  have N := Lib.hid (number_no (l := [97]) (by decide) (by decide +kernel) u x w V.er)
  have NA := fun w => Lib.hid (name_a w)
  have IA := fun w HN => Lib.hid (index_a gN cN uN w HN h0)
  have HRH := Lib.hid HR
  have HNH := Lib.hid HN
  clear HR HN V h0
  generalize tx [97] = s at N NA IA ⊢
  go_enter Tryz.func91, Tryz.ntmps91
  go_wp2_with (first
    | (go_at_call 88; (with_reducible refine N.out.mono ?_); rintro e w1 ⟨rfl, hb⟩; have B := Lib.hid hb; clear hb; have HR1 := Lib.hid (HRH.out.below B.out HRH.out.lt); have HN1 := Lib.hid (HNH.out.below B.out HNH.out.lt); have K1 := HR1.out.cell 6; simp only [rb] at K1)
    | (go_at_call 89; (with_reducible refine (NA _).out.mono ?_); rintro e w2 ⟨rfl, rfl⟩)
    | (go_at_call 118; (with_reducible refine (IA _ HN1.out).out.mono ?_); rintro e w2 ⟨rfl, rfl⟩))
  go_ret2
  exact ⟨rfl, B.out⟩
end Go.Proofs.YtbcihgimflljoaaGreatDoor
namespace Go.Proofs.YtbcihgimflljoaaGreatDoor
open Go.RowKit Go.Shelf

theorem mk_ints3 (w : World) : (Instr.makeSlice 27 (.int .i64 0) (.int .i64 3)).run Tryz.prog w = .ok (.slice (some ⟨w.heap.size, 0, none⟩) 0 3) (w.alloc (.cells #[.int .i64 0, .int .i64 0, .int .i64 0] 3)) := by kernel_rfl
theorem row_parts : ∃ i, Tryz.prog.info? 40 = some i ∧ i.zero = some (Value.agg #[.slice none 0 0, .int .i64 0]) ∧ i.size = 2 ∧ i.bytes = 32 := info_parts (show (Tryz.prog.info? 40).map (fun i => (i.zero, i.size, i.bytes)) = some (some (.agg #[.slice none 0 0, .int .i64 0]), 2, 32) by kernel_rfl)
theorem own_low {w w' : World} {base size n : Nat} {e : TypeId} {v : Value} {xs : List Value} (h : w.ownsRow base e size v n xs) (hb : Below w.heap.size w w') : w'.ownsRow base e size v n xs :=
  h.kept (grown_of hb) (by by_cases e : v.ownBlock = none; exact .inl e; exact .inr e)
/-- what readRow has made -/
structure Ra where
  gI : Nat
  cI : Nat
  uI : Array Value
  gW : Nat
  cW : Nat
def Ra.good (R : Nat) (v0 v1 v2 : Int) (X : Ra) : Prop := (R < X.gI ∧ R < X.gW) ∧ X.uI[0]? = some (.int .i64 v0) ∧ X.uI[1]? = some (.int .i64 v1) ∧ X.uI[2]? = some (.int .i64 v2)
/-- the value of a word, wherever the reader stands so -/
def Vc (w : World) (R : Nat) (cs : Array Value) (s : ByteArray) (v : Int) : Prop :=
  ∀ W, w.grownBy W (some R) → Blk W R 73 cs → Calls Tryz.prog 91 #[.pointer (some ⟨R, 0, none⟩), .string s] W fun e w' => e = .returned (.tuple #[.int .i64 v, .int .i64 0]) ∧ Below W.heap.size W w'
set_option maxRecDepth 100000 in
set_option maxHeartbeats 4000000 in
theorem row_told (w : World) (R k : Nat) (hk : k ≤ 1000) (Hh : Option Addr) (vr nm : Value) (A : Option Addr) (n0 c0 : Nat) (hn0 : n0 ≤ 100) (xs : List Value) (s0 s1 s2 s4 : ByteArray) (v0 v1 v2 out : Int) (hout : 0 ≤ out)
    (h0 : Vc w R (rb k 2 0 (.slice Hh 3 3) vr (.slice A n0 c0) nm) s0 v0) (h1 : Vc w R (rb k 2 0 (.slice Hh 3 3) vr (.slice A n0 c0) nm) s1 v1) (h2 : Vc w R (rb k 2 0 (.slice Hh 3 3) vr (.slice A n0 c0) nm) s2 v2) (h4 : Vc w R (rb k 2 0 (.slice Hh 3 3) vr (.slice A n0 c0) nm) s4 out)
    (hRW : w.ownsRow (R + 1) 40 2 (.slice A n0 c0) n0 xs) :
    Told 65 w R (fun b => b = R ∨ some b = (Value.slice A n0 c0).ownBlock) [s0, s1, s2, tx wArrow, s4] (rb k 2 0 (.slice Hh 3 3) vr (.slice A n0 c0) nm) 0
      (fun X : Ra => rb k 2 0 (.slice Hh 3 3) vr (.slice (some ⟨X.gW, 0, none⟩) (n0 + 1) X.cW) nm)
      (fun X w' => Blk w' X.gI 3 X.uI ∧ w'.ownsRow (R + 1) 40 2 (.slice (some ⟨X.gW, 0, none⟩) (n0 + 1) X.cW) (n0 + 1) (xs ++ [.slice (some ⟨X.gI, 0, none⟩) 3 X.cI, .int .i64 out]))
      (fun X => X.good R v0 v1 v2) := by
  intro W g cap cur hg HR HG hne hcur hcap
  simp only [List.length_cons, List.length_nil] at hcap ⊢
  obtain ⟨i0, hi, hz0, hz1, hz2⟩ := info_parts Tryz.info_int
  obtain ⟨j0, ji, jz0, jz1, jz2⟩ := row_parts
  have C0 := HG.cell 0
  have C1 := HG.cell 1
  have C2 := HG.cell 2
  have C3 := HG.cell 3
  have C4 := HG.cell 4
  rw [hcur 0 _ rfl] at C0
  rw [hcur 1 _ rfl] at C1
  rw [hcur 2 _ rfl] at C2
  rw [hcur 3 _ rfl] at C3
  rw [hcur 4 _ rfl] at C4
  have ea := teqs wArrow [45, 62] true (by decide)
  generalize tx wArrow = s3 at C3 ea
  have HRH := Lib.hid HR
  have HGH := Lib.hid HG
  have hRl := HR.lt
  have hgH := Lib.hid hg
  have K3 := HR.cell 3
  simp only [rb] at K3
  have hc1 : 3 ≤ cap := by omega
  have hc2 : (3 : Int) ≤ (cap : Int) := by omega
  have V0 := Lib.hid h0
  have V1 := Lib.hid h1
  have V2 := Lib.hid h2
  have V4 := Lib.hid h4
  have RW := Lib.hid (hRW.kept hg (by
    by_cases e : (Value.slice A n0 c0).ownBlock = none
    · exact .inl e
    · refine .inr fun e' => ?_
      have := (hRW.lt R e').1
      omega))
  clear hg HR HG hcur h0 h1 h2 h4 hRW
  have mk := mk_ints3
  have HO := Lib.hid (World.ownsRow_made (base := W.heap.size) (e := 3) (size := 1) W #[.int .i64 0, .int .i64 0, .int .i64 0] 3 (Nat.le_refl _) (by unfold maxLen; omega) (by rfl))
  have HB0 := Lib.hid (Below.alloc (Below.refl W.heap.size W) (Nat.le_refl _) (.cells #[.int .i64 0, .int .i64 0, .int .i64 0] 3))
  go_enter Tryz.func65, Tryz.ntmps65
  go_wp2_with fail
  generalize W.alloc (.cells #[.int .i64 0, .int .i64 0, .int .i64 0] 3) = W0 at HO HB0 ⊢
  have HG0 := Lib.hid (HGH.out.below HB0.out HGH.out.lt)
  have HR0 := Lib.hid (HRH.out.below HB0.out HRH.out.lt)
  have D0 := (HG0.out.cell 0).trans ((HGH.out.cell 0).symm.trans C0)
  have Y0 := Lib.hid (V0.out W0 (grown_trans hgH.out (grown_below HB0.out)) HR0.out)
  refine wp_loop_rounds 4 ?_
  rw [rounds_succ]
  go_wp2_with (first
    | (go_at_call 91; (with_reducible refine Y0.out.mono ?_); rintro e w1 ⟨rfl, hb⟩; have HB1 := Lib.hid (HB0.out.trans (hb.mono HB0.out.size)); have HO1 := Lib.hid (own_below HO.out hb); have s1z := HB1.out.size; clear hb)
    | (at_builtin; refine wpList_append1 rfl _ _ 27 rfl W.heap.size 3 i0 (.int .i64 0) 8 Tryz.underlying27 hi hz0 hz1 hz2 rfl _ 0 3 _ rfl HO1.out (.int .i64 v0) rfl rfl (by unfold maxLen; omega) (by omega) s1z ?_; intro g2 c2 w2 hown2 hbel2; have HO2 := Lib.hid hown2; have HB2 := Lib.hid (HB1.out.trans hbel2); clear hown2 hbel2))
  clear D0 Y0 HG0 HR0
  have HGw2 := Lib.hid (HGH.out.below HB2.out HGH.out.lt)
  have HRw2 := Lib.hid (HRH.out.below HB2.out HRH.out.lt)
  have D1 := (HGw2.out.cell 1).trans ((HGH.out.cell 1).symm.trans C1)
  have Y1 := Lib.hid (V1.out w2 (grown_trans hgH.out (grown_below HB2.out)) HRw2.out)
  rw [rounds_succ]
  go_wp2_with (first
    | (go_at_call 91; (with_reducible refine Y1.out.mono ?_); rintro e w3 ⟨rfl, hb⟩; have HBw3 := Lib.hid (HB2.out.trans (hb.mono HB2.out.size)); have HOw3 := Lib.hid (own_below HO2.out hb); have sw3 := HBw3.out.size; clear hb)
    | (at_builtin; refine wpList_append1 rfl _ _ 27 rfl W.heap.size 3 i0 (.int .i64 0) 8 Tryz.underlying27 hi hz0 hz1 hz2 rfl _ 1 c2 _ rfl HOw3.out (.int .i64 v1) rfl rfl (by unfold maxLen; omega) (by omega) sw3 ?_; intro g4 c4 w4 hownX hbelX; have HOw4 := Lib.hid hownX; have HBw4 := Lib.hid (HBw3.out.trans hbelX); clear hownX hbelX))
  clear D1 Y1 HGw2 HRw2
  have HGw4 := Lib.hid (HGH.out.below HBw4.out HGH.out.lt)
  have HRw4 := Lib.hid (HRH.out.below HBw4.out HRH.out.lt)
  have D2 := (HGw4.out.cell 2).trans ((HGH.out.cell 2).symm.trans C2)
  have Y2 := Lib.hid (V2.out w4 (grown_trans hgH.out (grown_below HBw4.out)) HRw4.out)
  rw [rounds_succ]
  go_wp2_with (first
    | (go_at_call 91; (with_reducible refine Y2.out.mono ?_); rintro e w5 ⟨rfl, hb⟩; have HBw5 := Lib.hid (HBw4.out.trans (hb.mono HBw4.out.size)); have HOw5 := Lib.hid (own_below HOw4.out hb); have sw5 := HBw5.out.size; clear hb)
    | (at_builtin; refine wpList_append1 rfl _ _ 27 rfl W.heap.size 3 i0 (.int .i64 0) 8 Tryz.underlying27 hi hz0 hz1 hz2 rfl _ 2 c4 _ rfl HOw5.out (.int .i64 v2) rfl rfl (by unfold maxLen; omega) (by omega) sw5 ?_; intro gI cI w6 hownX hbelX; have HOw6 := Lib.hid hownX; have HBw6 := Lib.hid (HBw5.out.trans hbelX); clear hownX hbelX))
  clear D2 Y2 HGw4 HRw4
  rw [rounds_succ]
  obtain ⟨uI, hI6, hIb, hIu⟩ := own_blk HOw6.out
  have HI6 := Lib.hid hI6
  clear hI6 HO HO1 HO2 HOw3 HOw4 HOw5 HOw6 HB0 HB1 HB2 HBw3 HBw4 HBw5
  have HGx := Lib.hid (HGH.out.below HBw6.out HGH.out.lt)
  have HRx := Lib.hid (HRH.out.below HBw6.out HRH.out.lt)
  have D4 := (HGx.out.cell 4).trans ((HGH.out.cell 4).symm.trans C4)
  have Y4 := Lib.hid (V4.out w6 (grown_trans hgH.out (grown_below HBw6.out)) HRx.out)
  have en : ((n0 : Int) == 400) = false := by rw [beq_eq_false_iff_ne]; omega
  have eo : ¬ out < 0 := by omega
  clear V0 V1 V2 V4
  go_wp2_with (first
    | (go_at_call 91; (with_reducible refine Y4.out.mono ?_); rintro e w7 ⟨rfl, hb⟩; have HB7 := Lib.hid (HBw6.out.trans (hb.mono HBw6.out.size)); have HI7 := Lib.hid (HI6.out.below hb HI6.out.lt); clear hb; have HR7 := Lib.hid (HRH.out.below HB7.out HRH.out.lt); have p5 := HR7.out.cell 5; have p5a := (HR7.out.alloc (.cells #[.slice (some ⟨gI, 0, none⟩) 3 cI, .int .i64 out] 40)).cell 5; have RW7 := Lib.hid (own_low RW.out HB7.out); have s7 := HB7.out.size; simp only [rb] at p5 p5a)
    | (at_builtin; refine wpList_append_lies _ rfl _ _ _ rfl (R + 1) 40 j0 (.agg #[.slice none 0 0, .int .i64 0]) 2 32 Tryz.underlying24 ji jz0 jz1 jz2 rfl (by decide) (.slice A n0 c0) n0 xs (by rfl) (RW7.out.alloc _) ⟨w7.heap.size, 0, none⟩ 1 1 [.slice (some ⟨gI, 0, none⟩) 3 cI, .int .i64 out] (by rfl) (by rfl) (World.news_of_block (cs := #[.slice (some ⟨gI, 0, none⟩) 3 cI, .int .i64 out]) (t := 40) (fr := (0, 0)) (heap_alloc_new w7 _)) (by simp [Value.oneCell']) (by omega) (by unfold maxLen; omega) (by omega) (by simp; omega) (w7.heap.size + 1) (by simp) ?_; intro gW cW w8 hownW hgrowW hatW hltW; have HR8 := Lib.hid (show Blk w8 R _ _ from (hgrowW.block R (by have := HR7.out.lt; simp; omega) (fun e => by have := (RW7.out.lt R e.symm).1; omega)).trans (HR7.out.alloc _)); have q5 := HR8.out.cell 5; have q5f := HR8.out.frozen 5; simp only [rb] at q5))

  all_goals
    go_ret
    have hgW : R < gW := by
      rcases hatW with h | h
      · have := (RW7.out.lt gW h).1; omega
      · omega
    have hne2 : (Value.slice A n0 c0).ownBlock ≠ some gI := by
      rcases RW7.out.2 with ⟨h1, _⟩ | ⟨g', cap', cur', h1, hb', hgg, _⟩
      · rw [h1]; simp [Value.ownBlock]
      · rw [h1]
        simp only [Value.ownBlock]
        intro e'
        have : g' = gI := by injection e'
        subst this
        have hx : w7.heap[g']? = _ := HI7.out
        rw [hgg] at hx
        injection hx with hx
        injection hx with _ hx
        exact absurd hx (by decide)
    have HI8 := Blk.far (p := ⟨R, 5, none⟩) ((hgrowW.block gI (by have := HI7.out.lt; simp; omega) (fun e => hne2 e.symm)).trans (HI7.out.alloc _)) (by show gI ≠ R; omega) (.slice (some ⟨gW, 0, none⟩) (n0 + 1) cW)
    refine ⟨⟨gI, cI, uI, gW, cW⟩, ⟨⟨by show R < gI; omega, hgW⟩, hIu 0 _ rfl, hIu 1 _ rfl, hIu 2 _ rfl⟩, rfl, ?_, HR8.out.set_ 5 _, HI8, ?_⟩
    · have hs := hgrowW.size
      refine grw_trans (grw_of (.inl rfl) (grown_below HB7.out)) ⟨hgrowW.os, hgrowW.tape, hgrowW.output, by simp at hs ⊢; omega, fun b hb hn => ?_⟩
      have h1 : b ≠ R := fun e => hn (.inl e)
      refine (Below.heap_setCell w8 ⟨R, 5, none⟩ _ b h1).trans ((hgrowW.block b (by simp; omega) (fun e => hn (.inr e))).trans (Below.heap_alloc _ _ b hb))
    · refine hownW.kept (grown_set w8 R 5 _) (.inr ?_)
      simp only [Value.ownBlock]
      intro e'
      injection e' with e'
      omega
end Go.Proofs.YtbcihgimflljoaaGreatDoor
