/- The walk of Choose, for two trees. -/
import Derived.Test.YthgnjjpkmikokaaDoorChs
import Derived.Test.YthgnjjpkmikokaaDoorBar
import Derived.Test.YthgnjjpkmikokaaDoorBas
namespace Go.Proofs.YthgnjjpkmikokaaDoor
open Go.RowKit

/-- a list of two trees, as cells -/
def L2 (w : World) (gl sn : Nat) (U : Nat → Tr) (AHs ANs : Nat → Option Addr) (cHs cNs : Nat → Nat) : Prop :=
  gl < w.heap.size ∧ ∀ i, i < 2 → w.cell? ⟨gl, i * 3, none⟩ = some (.int .i64 (sn : Int)) ∧ w.cell? ⟨gl, i * 3 + 1, none⟩ = some (.slice (AHs i) (U i).n (cHs i)) ∧ w.cell? ⟨gl, i * 3 + 2, none⟩ = some (.slice (ANs i) (U i).m (cNs i))
theorem L2.later {w w' : World} {gl sn : Nat} {U : Nat → Tr} {AHs ANs : Nat → Option Addr} {cHs cNs : Nat → Nat} (h : L2 w gl sn U AHs ANs cHs cNs) (hb : Below w.heap.size w w') : L2 w' gl sn U AHs ANs cHs cNs :=
  ⟨Nat.lt_of_lt_of_le h.1 hb.size, fun i hi => by
    obtain ⟨h1, h2, h3⟩ := h.2 i hi
    exact ⟨(hb.cell (p := ⟨gl, _, none⟩) h.1).trans h1, (hb.cell (p := ⟨gl, _, none⟩) h.1).trans h2, (hb.cell (p := ⟨gl, _, none⟩) h.1).trans h3⟩⟩

set_option maxRecDepth 100000 in
theorem indext_no {w : World} {gl sn : Nat} {U : Nat → Tr} {AHs ANs : Nat → Option Addr} {cHs cNs : Nat → Nat} {gF : FuncId} {cb : Array Value} (eg : ∀ args w, (callFunc gF args).run Tryd.prog w = .ok (.enter gF args) w) (h : L2 w gl sn U AHs ANs cHs cNs)
    (hF : ∀ i, i < 2 → ∀ w', Below w.heap.size w w' → Calls Tryd.prog gF (#[.agg #[.int .i64 (sn : Int), .slice (AHs i) (U i).n (cHs i), .slice (ANs i) (U i).m (cNs i)]] ++ cb) w' fun e w'' => e = .returned (.bool false) ∧ Below w'.heap.size w' w'') :
    Calls Tryd.prog 69 #[.slice (some ⟨gl, 0, none⟩) 2 2, .func (.func gF) #[] cb] w fun e w' => e = .returned (.int .i64 (-1)) ∧ Below w.heap.size w w' := by
  have H := Lib.hid h
  have HF := Lib.hid hF
  clear h hF
  go_enter Tryd.func69, Tryd.ntmps69
  go_wp2
  go_loopw [8] (fun iv wr => ∃ j : Nat, j ≤ 2 ∧ iv = .int .i64 (j : Int) ∧ Below w.heap.size w wr) (fun iv _ => 2 - (intOf iv).toNat)
  case atStart => exact ⟨0, Nat.zero_le _, rfl, Below.refl _ _⟩
  case round =>
    obtain ⟨j, hj, rfl, hb⟩ := hrel
    have HB := Lib.hid hb
    clear hb
    by_cases hlt : j < 2
    · have d1 : decide ((j : Int) < 2) = true := by rw [decide_eq_true_iff]; omega
      have i0 : (0 : Int) ≤ (j : Int) := by omega
      have i1 : (j : Int) < 2 := by omega
      have hl := (H.out.later HB.out)
      have hgl := hl.1
      obtain ⟨c0, c1, c2⟩ := hl.2 j hlt
      have C := HF.out j hlt wr HB.out
      generalize (U j).n = un at *
      generalize (U j).m = um at *
      generalize AHs j = ah at *
      generalize ANs j = an at *
      generalize cHs j = ch at *
      generalize cNs j = cn at *
      have CC := Lib.hid C
      clear hl C
      go_wp2_with ((with_reducible refine (CC.out).mono ?_); rintro e w1 ⟨rfl, hb1⟩; have B1 := Lib.hid (HB.out.trans (hb1.mono HB.out.size)); clear hb1)
      go_roundw
      case rel => exact ⟨j + 1, by omega, by go_num, B1.out⟩
      case measure => simp [intOf]; omega
    · obtain rfl : j = 2 := by omega
      go_wp2
      go_ret
      exact ⟨rfl, HB.out⟩
theorem containst_no {w : World} {gl sn : Nat} {U : Nat → Tr} {AHs ANs : Nat → Option Addr} {cHs cNs : Nat → Nat} {gF : FuncId} {cb : Array Value} (eg : ∀ args w, (callFunc gF args).run Tryd.prog w = .ok (.enter gF args) w) (h : L2 w gl sn U AHs ANs cHs cNs)
    (hF : ∀ i, i < 2 → ∀ w', Below w.heap.size w w' → Calls Tryd.prog gF (#[.agg #[.int .i64 (sn : Int), .slice (AHs i) (U i).n (cHs i), .slice (ANs i) (U i).m (cNs i)]] ++ cb) w' fun e w'' => e = .returned (.bool false) ∧ Below w'.heap.size w' w'') :
    Calls Tryd.prog 45 #[.slice (some ⟨gl, 0, none⟩) 2 2, .func (.func gF) #[] cb] w fun e w' => e = .returned (.bool false) ∧ Below w.heap.size w w' := by
  have I := Lib.hid (indext_no eg h hF)
  clear h hF
  go_enter Tryd.func45, Tryd.ntmps45
  go_wp2_with (go_at_call 69; (with_reducible refine I.out.mono ?_); rintro e w' ⟨rfl, hb⟩)
  go_ret
  exact ⟨rfl, hb⟩
theorem choose1_any {T : Tr} {sn : Nat} {AH AN : Option Addr} {cH cN : Nat} {w : World} (hst : T.st = (sn : Int)) (h : TS w AH AN T) (hT : Rt T) :
    Calls Tryd.prog 46 #[.agg #[.int .i64 (sn : Int), .slice AH T.n cH, .slice AN T.m cN]] w fun e w' => e = .returned (.bool false) ∧ Below w.heap.size w w' := by
  have RI := Lib.hid (fun w' (hb : Below w.heap.size w w') => tright_yes AH cH AN cN T w' (h.later hb) hT)
  rw [hst] at RI
  have Z1 := Lib.hid ((Below.refl w.heap.size w).alloc (Nat.le_refl _) (.cells #[.int .i64 (sn : Int), .slice AH T.n cH, .slice AN T.m cN] 25))
  obtain ⟨t0, t1, t2, t3⟩ := (Blk.new w 25 #[.int .i64 (sn : Int), .slice AH T.n cH, .slice AN T.m cN]).three
  clear h hT hst
  go_enter Tryd.func46, Tryd.ntmps46
  go_wp2_with (go_at_call 21; (with_reducible refine (RI.out _ Z1.out).mono ?_); rintro e w1 ⟨rfl, hb⟩; have B1 := Lib.hid (Z1.out.trans (hb.mono Z1.out.size)); clear hb)
  go_ret
  exact ⟨rfl, B1.out⟩
theorem choose2_any {T V : Tr} {sn b0 : Nat} {AH AN AI AM : Option Addr} {cH cN cI cM : Nat} {w : World} (hv : TS w AI AM V) (h : TS w AH AN T) (hm : V.n ≤ 1000000) (hn : T.n ≤ 1000000) (hs : sm V.f V.n T.f T.n = true) (hb0 : Blk w b0 25 #[.int .i64 (sn : Int), .slice AI V.n cI, .slice AM V.m cM]) :
    Calls Tryd.prog 47 #[.agg #[.int .i64 (sn : Int), .slice AH T.n cH, .slice AN T.m cN], .pointer (some ⟨b0, 0, none⟩)] w fun e w' => e = .returned (.bool false) ∧ Below w.heap.size w w' := by
  have AL := Lib.hid (fun w' (hb : Below w.heap.size w w') => alike_yes (sn := sn) (cH := cI) (cN := cM) (cH' := cH) (cN' := cN) (hv.later hb) (h.later hb) hm hn hs)
  have Z1 := Lib.hid ((Below.refl w.heap.size w).alloc (Nat.le_refl _) (.cells #[.int .i64 (sn : Int), .slice AH T.n cH, .slice AN T.m cN] 25))
  obtain ⟨t0, t1, t2, t3⟩ := (Blk.new w 25 #[.int .i64 (sn : Int), .slice AH T.n cH, .slice AN T.m cN]).three
  obtain ⟨u0, u1, u2, u3⟩ := (hb0.alloc (.cells #[.int .i64 (sn : Int), .slice AH T.n cH, .slice AN T.m cN] 25)).three
  clear h hv hs hb0
  go_enter Tryd.func47, Tryd.ntmps47
  go_wp2_with (go_at_call 48; (with_reducible refine (AL.out _ Z1.out).mono ?_); rintro e w1 ⟨rfl, hb⟩; have B1 := Lib.hid (Z1.out.trans (hb.mono Z1.out.size)); clear hb)
  go_ret
  exact ⟨rfl, B1.out⟩

set_option maxRecDepth 100000 in
set_option maxHeartbeats 16000000 in
theorem Choose_any {T : Tr} {U : Nat → Tr} {sn gl : Nat} {AH AN : Option Addr} {cH cN : Nat} {AHs ANs : Nat → Option Addr} {cHs cNs : Nat → Nat} {w : World} {root rC : Int} {Lc : List Ndv} {SC : Wk Unit} (hsn : sn = 2) (hst : T.st = (sn : Int)) (h : TS w AH AN T) (hT : Rt T)
    (hl : L2 w gl sn U AHs ANs cHs cNs) (hus : ∀ i, i < 2 → (U i).st = (sn : Int) ∧ TS w (AHs i) (ANs i) (U i) ∧ Rt (U i) ∧ sm T.f T.n (U i).f (U i).n = true)
    (hCH : ∀ (w' : World) (fb : Nat) (G : Nat → Prop), Below w.heap.size w w' → Fo w' fb G (sn : Int) [] → (∀ k, G k → w.heap.size ≤ k) → Calls Tryd.prog 49 #[.pointer (some ⟨fb, 0, none⟩), .agg #[.int .i64 (sn : Int), .slice AH T.n cH, .slice AN T.m cN], .slice (some ⟨gl, 0, none⟩) 2 2] w' fun e w'' => ∃ G', e = .returned (.tuple #[.int .i32 root, .bool true]) ∧ Fo w'' fb G' (sn : Int) Lc ∧ Fr G w' G' w'')
    (hn : I32 root) (hv : visitF sn (elN (sn : Int) Lc) T.n root ⟨(), [], []⟩ = some (rC, SC)) (hle : SC.out.length ≤ 4096) :
    Calls Tryd.prog 18 #[.agg #[.int .i64 (sn : Int), .slice AH T.n cH, .slice AN T.m cN], .slice (some ⟨gl, 0, none⟩) 2 2] w fun e w' => ∃ AI cI AN' cN', e = .returned (.tuple #[.agg #[.int .i64 (sn : Int), .slice AI T.n cI, .slice AN' SC.out.length cN'], .int .i64 0]) ∧ TS w' AI AN' (trO sn T.n T.f SC.out) ∧ Below w.heap.size w w' := by
  have n25 := hT.hd.1.2
  have RI := Lib.hid (fun w' (hb : Below w.heap.size w w') => tright_yes AH cH AN cN T w' (h.later hb) hT)
  rw [hst] at RI
  have C1 := Lib.hid (fun w' (hb : Below w.heap.size w w') => containst_no (gF := 46) (cb := #[]) (enters_of Tryd.func46 (by kernel_rfl) rfl) (hl.later hb) (fun i hi w'' hb' => choose1_any (hus i hi).1 (((hus i hi).2.1.later hb).later hb') (hus i hi).2.2.1))
  have C2 := Lib.hid (fun w' (hb : Below w.heap.size w w') (hk : Blk w' w.heap.size 25 #[.int .i64 (sn : Int), .slice AH T.n cH, .slice AN T.m cN]) => containst_no (gF := 47) (cb := #[.pointer (some ⟨w.heap.size, 0, none⟩)]) (enters_of Tryd.func47 (by kernel_rfl) rfl) (hl.later hb) (fun i hi w'' hb' => choose2_any ((h.later hb).later hb') (((hus i hi).2.1.later hb).later hb') (by omega) (by have := (hus i hi).2.2.1.hd.1.2; omega) (hus i hi).2.2.2 (hk.below hb' hk.lt)))
  have NF := Lib.hid (fun w' => newForest_any (sn := sn) (w := w') (by omega) (by omega))
  have CL := Lib.hid (fun w' (hb : Below w.heap.size w w') => clone_any AH T.n cH T.f w' (h.1.later hb) (by omega))
  have CH := Lib.hid hCH
  have HN := Lib.hid hn
  have HV := Lib.hid hv
  have dsn : decide ((2 : Int) = (sn : Int)) = true := by rw [decide_eq_true_iff]; omega
  have dsn2 : ((2 : Int) == (sn : Int)) = true := by rw [hsn]; rfl
  have dsn3 : decide (¬ (2 : Int) = (sn : Int)) = false := by rw [hsn]; rfl
  have dsn4 : ((2 : Int) != (sn : Int)) = false := by rw [hsn]; rfl
  have dsn5 : (2 : Int) = (sn : Int) ↔ True := by rw [hsn]; simp
  have LI := Lib.hid (fun w' AI AN' cI cN' => limited_ok (sn : Int) AI AN' T.n cI SC.out.length cN' w' hle)
  clear h hT hst hl hus hCH hn hv hsn
  go_enter Tryd.func18, Tryd.ntmps18
  have Z1 := Lib.hid ((Below.refl w.heap.size w).alloc (Nat.le_refl _) (.cells #[.int .i64 (sn : Int), .slice AH T.n cH, .slice AN T.m cN] 25))
  have Z2 := Lib.hid (Z1.out.alloc Z1.out.size (.cells #[.int .i64 0, .slice none 0 0, .slice none 0 0] 25))
  have KT := Lib.hid ((Blk.new w 25 #[.int .i64 (sn : Int), .slice AH T.n cH, .slice AN T.m cN]).alloc (.cells #[.int .i64 0, .slice none 0 0, .slice none 0 0] 25))
  have KR := Blk.new (w.alloc (.cells #[.int .i64 (sn : Int), .slice AH T.n cH, .slice AN T.m cN] 25)) 25 #[.int .i64 0, .slice none 0 0, .slice none 0 0]
  simp only [World.size_alloc] at KR
  have KR := Lib.hid KR
  obtain ⟨t0, t1, t2, t3⟩ := KT.out.three
  go_wp2_with (first
    | (go_at_call 21; (with_reducible refine (RI.out _ Z2.out).mono ?_); rintro e w1 ⟨rfl, hb⟩; have B1 := Lib.hid (Z2.out.trans (hb.mono Z2.out.size)); have KT1 := Lib.hid (KT.out.below hb KT.out.lt); have KR1 := Lib.hid (KR.out.below hb KR.out.lt); clear hb; obtain ⟨u0, u1, u2, u3⟩ := KT1.out.three)
    | (go_at_call 45; (with_reducible refine (C2.out w2 B2.out KT2.out).mono ?_); rintro e w3 ⟨rfl, hb⟩; have B3 := Lib.hid (B2.out.trans (hb.mono B2.out.size)); have KT3 := Lib.hid (KT2.out.below hb KT2.out.lt); have KR3 := Lib.hid (KR2.out.below hb KR2.out.lt); clear hb; obtain ⟨x0, x1, x2, x3⟩ := KT3.out.three)
    | (go_at_call 45; (with_reducible refine (C1.out w1 B1.out).mono ?_); rintro e w2 ⟨rfl, hb⟩; have B2 := Lib.hid (B1.out.trans (hb.mono B1.out.size)); have KT2 := Lib.hid (KT1.out.below hb KT1.out.lt); have KR2 := Lib.hid (KR1.out.below hb KR1.out.lt); clear hb; obtain ⟨v0, v1, v2, v3⟩ := KT2.out.three)
    | (go_at_call 23; (with_reducible refine (NF.out _).mono ?_); rintro e w4 ⟨fb, G, rfl, hf, hg, hb⟩; have F4 := Lib.hid hf; have G4 := Lib.hid hg; have B4 := Lib.hid (B3.out.trans (hb.mono B3.out.size)); have KT4 := Lib.hid (KT3.out.below hb KT3.out.lt); have KR4 := Lib.hid (KR3.out.below hb KR3.out.lt); have GB4 := Lib.hid (show ∀ k, G k → w.heap.size + 1 + 1 ≤ k from fun k hk => by have := G4.out k hk; have := KR3.out.lt; omega); clear hb hf hg; obtain ⟨y0, y1, y2, y3⟩ := KT4.out.three)
    | (go_at_call 49; (with_reducible refine (CH.out w4 fb G B4.out F4.out (fun k hk => by have := GB4.out k hk; omega)).mono ?_); rintro e w5 ⟨G5, rfl, hf, hr⟩; have F5 := Lib.hid hf; have GB5 := Lib.hid (show ∀ k, G5 k → w.heap.size + 1 + 1 ≤ k from fun k hk => by
          rcases hr.new k hk with q | q
          · exact GB4.out k q
          · have := KR4.out.lt; omega); have hbl := hr.below GB4.out (show w.heap.size + 1 + 1 ≤ w4.heap.size from KR4.out.lt); have B5 := Lib.hid ((B4.out.trans (hbl.mono (by omega))).drew); have KT5 := Lib.hid (below_blk hbl KT4.out (by omega)).drew; have KR5 := Lib.hid (below_blk hbl KR4.out (by omega)).drew; clear hf hr hbl))
  have S5 := tri KT5.out
  have SZ5 : w.heap.size + 1 + 1 ≤ w5.drew.heap.size := KR5.out.lt
  have GL := Lib.hid F5.out.st2.2.2.2.2.2.2.1
  have NO := Lib.hid (fun w' (hf : Fo w' fb G5 (sn : Int) Lc) (hz : w.heap.size + 1 + 1 ≤ w'.heap.size) => (nodesOf_any (lm := 25) hf n25 (by omega) HN.out HV.out).mono (R' := fun e w'' => ∃ A c G', e = .returned (.slice A SC.out.length c) ∧ NL w'' w'.heap.size A c SC.out ∧ Fr G5 w' G' w'' ∧ Below (w.heap.size + 1 + 1) w' w'') fun e w'' ⟨A, c, G', h1, h2, h3⟩ => ⟨A, c, G', h1, h2, h3, h3.below GB5.out hz⟩)
  have hk0 : w.heap.size < w.heap.size + 1 + 1 := by omega
  have hk1 : w.heap.size + 1 < w.heap.size + 1 + 1 := by omega
  have hk2 : w.heap.size ≤ w.heap.size + 1 + 1 := by omega
  have hkne : w.heap.size ≠ w.heap.size + 1 := by omega
  clear t0 t1 t2 t3 u0 u1 u2 u3 v0 v1 v2 v3 x0 x1 x2 x3 y0 y1 y2 y3
  go_region_held_law (fun w' => w'.cell? ⟨w.heap.size, 0, none⟩ = some (.int .i64 (sn : Int)) ∧ w'.cell? ⟨w.heap.size, 1, none⟩ = some (.slice AH T.n cH) ∧ w'.cell? ⟨w.heap.size, 2, none⟩ = some (.slice AN T.m cN)) (first | assumption | go_keep)
    (first
    | (go_at_call 31; (with_reducible refine (CL.out w5.drew B5.out).mono ?_); rintro e wa ⟨AI, cI, rfl, ho, hb⟩; have OCwa := Lib.hid ho; have BCwa := Lib.hid hb; have KTwa := Lib.hid (below_blk (hb.mono SZ5) KT5.out hk0); have KRwa := Lib.hid (below_blk (hb.mono SZ5) KR5.out hk1); have BTwa := Lib.hid (B5.out.trans ((hb.mono SZ5).mono hk2)); have SZwa := Nat.le_trans SZ5 ((hb.mono SZ5)).size; have Swa := tri KTwa.out; clear hb ho)
    | (go_at_call 32; (with_reducible refine (NO.out wa (F5.out.below (below_drew2 BCwa.out)) SZwa).mono ?_); rintro e wc ⟨AN', cN', G6, rfl, hn5, hr5, hb5⟩; have Nwc := Lib.hid hn5; have Rwc := Lib.hid hr5; have KTwc := Lib.hid (below_blk hb5 KTwa.out hk0); have KRwc := Lib.hid (below_blk hb5 KRwa.out hk1); have BTwc := Lib.hid (BTwa.out.trans (hb5.mono hk2)); have Swc := tri KTwc.out; clear hn5 hr5 hb5)
    | (go_at_call 24; (with_reducible refine (LI.out wc AI AN' cI cN').mono ?_); rintro e wd ⟨rfl, hb6⟩; have B6 := Lib.hid hb6; have KT6 := KTwc.out.below hb6 KTwc.out.lt; have S6 := tri KT6; have KR6 := Lib.hid (KRwc.out.below hb6 KRwc.out.lt); obtain ⟨z0, z1, z2, z3, z4, z5, z6⟩ := KR6.out.three6; have S8 := tri (((KT6.far (p := ⟨w.heap.size + 1, 0, none⟩) hkne (.int .i64 (sn : Int))).far (p := ⟨w.heap.size + 1, 1, none⟩) hkne (.slice AI T.n cI)).far (p := ⟨w.heap.size + 1, 2, none⟩) hkne (.slice AN' SC.out.length cN')); clear hb6 KT6))
  all_goals
    go_wp2
    have FZ := set3_fr wd (w.heap.size + 1) (.int .i64 (sn : Int)) (.slice AI T.n cI) (.slice AN' SC.out.length cN')
    have KZ : Blk (((wd.setCell ⟨w.heap.size + 1, 0, none⟩ (.int .i64 (sn : Int))).setCell ⟨w.heap.size + 1, 1, none⟩ (.slice AI T.n cI)).setCell ⟨w.heap.size + 1, 2, none⟩ (.slice AN' SC.out.length cN')) (w.heap.size + 1) 25 #[.int .i64 (sn : Int), .slice AI T.n cI, .slice AN' SC.out.length cN'] := by simpa using ((KR6.out.set_ 0 (.int .i64 (sn : Int))).set_ 1 (.slice AI T.n cI)).set_ 2 (.slice AN' SC.out.length cN')
    obtain ⟨y0, y1, y2, y3⟩ := KZ.three
    have q9 := own_q (w0 := w) OCwa.out (Rwc.out.trans (Fr.of_below B6.out)) (fun k hk => .inl (GL.out k hk)) (by omega)
    have n9 := (Nwc.out.keep (Fr.of_below (G := fun _ => False) B6.out) (fun _ h => h.elim)).keep FZ (fun k hk => by omega)
    have q10 := FZ.qreads q9.1 (fun h0 ad e hk => by have := q9.2 ad e; omega)
    have hbz := (BTwc.out.trans (B6.out.mono (Nat.le_trans (by omega) BTwc.out.size))).trans (FZ.below (B := w.heap.size) (fun k hk => by omega) (Nat.le_trans BTwc.out.size B6.out.size))
    exact bodyPost_ret (v := .tuple #[.agg #[.int .i64 (sn : Int), .slice AI T.n cI, .slice AN' SC.out.length cN'], .int .i64 0]) (by simp [results, Tryd.results18, go_sem, y0, y1, y2]) rfl ⟨AI, cI, AN', cN', rfl, ⟨q10, n9.nr⟩, hbz⟩
end Go.Proofs.YthgnjjpkmikokaaDoor
