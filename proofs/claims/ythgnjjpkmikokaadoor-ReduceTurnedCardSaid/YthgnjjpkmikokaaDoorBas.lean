/- The walk of Reduce, whose result nothing below it touches. -/
/- The walks of isState and Fix. -/
/- The walk of Uses. -/
/- The walk of Map. -/
import Derived.Test.YthgnjjpkmikokaaDoorBap
import Derived.Test.YthgnjjpkmikokaaDoorChg
namespace Go.Proofs.YthgnjjpkmikokaaDoor
open Go.RowKit

/-- the last stores of Reduce: what they leave stays where only older blocks change -/
theorem red_keep {w wz : World} {sn n base cI cN : Nat} {f : Nat → P2} {AI AN : Option Addr} {out : List (Int × List Int)} (q : QReads wz wz.heap.size AI n f) (hq : ∀ ad, AI = some ad → w.heap.size + 1 < ad.block) (hn : NL wz base AN cN out) (hb : w.heap.size + 1 < base) (H H' : Nat → Prop) (w'' : World)
    (hf : Fr H (((wz.setCell ⟨w.heap.size + 1, 0, none⟩ (.int .i64 (sn : Int))).setCell ⟨w.heap.size + 1, 1, none⟩ (.slice AI n cI)).setCell ⟨w.heap.size + 1, 2, none⟩ (.slice AN out.length cN)) H' w'') (hH : ∀ k, H k → k < w.heap.size) :
    TS w'' AI AN (trO sn n f out) := by
  have FZ := set3_fr wz (w.heap.size + 1) (.int .i64 (sn : Int)) (.slice AI n cI) (.slice AN out.length cN)
  exact ⟨hf.qreads (FZ.qreads q (fun _ ad e hk => by have := hq ad e; omega)) (fun _ ad e hk => by have := hq ad e; have := hH _ hk; omega), ((hn.keep FZ (fun k hk => by omega)).keep hf (fun k hk => by have := hH k hk; omega)).nr⟩
set_option maxRecDepth 100000 in
set_option maxHeartbeats 16000000 in
theorem reduce_keep {T : Tr} {sn : Nat} {AH AN : Option Addr} {cH cN : Nat} {w : World} {nums : List Int} {L : List Ndv} {r : Int} {S' : Wk Unit} (hst : T.st = (sn : Int)) (h : TS w AH AN T) (hT : Rt T) (hp : plantF (sn : Int) T.lv T.nx T.m [] = some (nums, L)) (hn : I32 (ig nums (T.m - 1)))
    (hv : visitF sn (elN (sn : Int) L) T.n (ig nums (T.m - 1)) ⟨(), [], []⟩ = some (r, S')) :
    Calls Tryd.prog 11 #[.agg #[.int .i64 (sn : Int), .slice AH T.n cH, .slice AN T.m cN]] w fun e w' => ∃ AI cI AN' cN', e = .returned (.agg #[.int .i64 (sn : Int), .slice AI T.n cI, .slice AN' S'.out.length cN']) ∧ TS w' AI AN' (trO sn T.n T.f S'.out) ∧ (∀ (H H' : Nat → Prop) (w'' : World), Fr H w' H' w'' → (∀ k, H k → k < w.heap.size) → TS w'' AI AN' (trO sn T.n T.f S'.out)) ∧ Below w.heap.size w w' := by
  have s1 := hT.s1
  have s2 := hT.s2
  have n25 := hT.hd.1.2
  have HTS := Lib.hid h
  have RI := Lib.hid (fun w' (hb : Below w.heap.size w w') => tright_yes AH cH AN cN T w' (h.later hb) hT)
  rw [hst] at RI s1 s2
  have NF := Lib.hid (fun w' => newForest_any (sn := sn) (w := w') (by omega) (by omega))
  have CL := Lib.hid (fun w' (hb : Below w.heap.size w w') => clone_any AH T.n cH T.f w' (h.1.later hb) (by omega))
  have HN := Lib.hid hn
  have HTT := Lib.hid hT
  have HST := Lib.hid hst
  have HP := Lib.hid hp
  have HV := Lib.hid hv
  clear h hp hn hv hT hst
  go_enter Tryd.func11, Tryd.ntmps11
  have Z1 := Lib.hid ((Below.refl w.heap.size w).alloc (Nat.le_refl _) (.cells #[.int .i64 (sn : Int), .slice AH T.n cH, .slice AN T.m cN] 25))
  have Z2 := Lib.hid (Z1.out.alloc Z1.out.size (.cells #[.int .i64 0, .slice none 0 0, .slice none 0 0] 25))
  have KT := Lib.hid ((Blk.new w 25 #[.int .i64 (sn : Int), .slice AH T.n cH, .slice AN T.m cN]).alloc (.cells #[.int .i64 0, .slice none 0 0, .slice none 0 0] 25))
  have KR := Blk.new (w.alloc (.cells #[.int .i64 (sn : Int), .slice AH T.n cH, .slice AN T.m cN] 25)) 25 #[.int .i64 0, .slice none 0 0, .slice none 0 0]
  simp only [World.size_alloc] at KR
  have KR := Lib.hid KR
  obtain ⟨t0, t1, t2, t3⟩ := KT.out.three
  go_wp2_with (first
    | (go_at_call 21; (with_reducible refine (RI.out _ Z2.out).mono ?_); rintro e w1 ⟨rfl, hb⟩; have B1 := Lib.hid (Z2.out.trans (hb.mono Z2.out.size)); have KT1 := Lib.hid (KT.out.below hb KT.out.lt); have KR1 := Lib.hid (KR.out.below hb KR.out.lt); clear hb; obtain ⟨u0, u1, u2, u3⟩ := KT1.out.three)
    | (go_at_call 23; (with_reducible refine (NF.out _).mono ?_); rintro e w3 ⟨fb, G, rfl, hf, hg, hb⟩; have F3 := Lib.hid hf; have G3 := Lib.hid hg; have L3 := Lib.hid hb; have BTw3 := Lib.hid ((B1.out.trans (hb.mono B1.out.size)).drew); have KTw3 := Lib.hid (KT1.out.below hb KT1.out.lt).drew; have KRw3 := Lib.hid (KR1.out.below hb KR1.out.lt).drew; clear hb hf hg))
  have hr1 := KR1.out.lt
  have S0 := tri KTw3.out
  have SZw3 : w.heap.size + 1 + 1 ≤ w3.drew.heap.size := KRw3.out.lt
  have hGb : ∀ k, G k → w.heap.size + 1 + 1 ≤ k := fun k hk => by have := G3.out k hk; omega
  have HGB := Lib.hid hGb
  have GL := Lib.hid F3.out.st2.2.2.2.2.2.2.1
  have PL := Lib.hid (fun w' (hb : Below w.heap.size w w') (hz : w.heap.size + 1 + 1 ≤ w'.heap.size) (hf : Fo w' fb G (sn : Int) []) => by
    have := plant_any (w := w') (AH := AH) (nh := T.n) (ch := cH) (cN := cN) (B := w.heap.size) (HST.out ▸ hf) HTT.out (HTS.out.2.below hb) (by omega) (fun k hk => by have := HGB.out k hk; omega) (HST.out.symm ▸ HP.out)
    rw [HST.out] at this
    exact this.mono (R' := fun e w'' => ∃ G', e = .returned (.int .i32 (ig nums (T.m - 1))) ∧ Fo w'' fb G' (sn : Int) L ∧ Fr G w' G' w'' ∧ Below (w.heap.size + 1 + 1) w' w'' ∧ ∀ k, G' k → w.heap.size + 1 + 1 ≤ k) fun e w'' ⟨G', h1, h2, h3⟩ => ⟨G', h1, h2, h3, h3.below HGB.out hz, fun k hk => by
      rcases h3.new k hk with q | q
      · exact HGB.out k q
      · omega⟩)
  have NO := Lib.hid (fun w' G4 (hf : Fo w' fb G4 (sn : Int) L) (hg : ∀ k, G4 k → w.heap.size + 1 + 1 ≤ k) (hz : w.heap.size + 1 + 1 ≤ w'.heap.size) => (nodesOf_any (lm := 25) hf n25 (by omega) HN.out HV.out).mono (R' := fun e w'' => ∃ A c G', e = .returned (.slice A S'.out.length c) ∧ NL w'' w'.heap.size A c S'.out ∧ Fr G4 w' G' w'' ∧ Below (w.heap.size + 1 + 1) w' w'') fun e w'' ⟨A, c, G', h1, h2, h3⟩ => ⟨A, c, G', h1, h2, h3, h3.below hg hz⟩)
  have hk0 : w.heap.size < w.heap.size + 1 + 1 := by omega
  have hk1 : w.heap.size + 1 < w.heap.size + 1 + 1 := by omega
  have hk2 : w.heap.size ≤ w.heap.size + 1 + 1 := by omega
  have hkne : w.heap.size ≠ w.heap.size + 1 := by omega
  have S3 : w3.drew.cell? ⟨w.heap.size, 0, none⟩ = some (.int .i64 (sn : Int)) ∧ w3.drew.cell? ⟨w.heap.size, 1, none⟩ = some (.slice AH T.n cH) ∧ w3.drew.cell? ⟨w.heap.size, 2, none⟩ = some (.slice AN T.m cN) := S0
  clear t0 t1 t2 t3 u0 u1 u2 u3 S0 hGb
  go_region_held_law (fun w' => w'.cell? ⟨w.heap.size, 0, none⟩ = some (.int .i64 (sn : Int)) ∧ w'.cell? ⟨w.heap.size, 1, none⟩ = some (.slice AH T.n cH) ∧ w'.cell? ⟨w.heap.size, 2, none⟩ = some (.slice AN T.m cN)) (first | assumption | go_keep)
    (first
    | (go_at_call 31; (with_reducible refine (CL.out w3.drew BTw3.out).mono ?_); rintro e wa ⟨AI, cI, rfl, ho, hb⟩; have OCwa := Lib.hid ho; have BCwa := Lib.hid hb; have KTwa := Lib.hid (below_blk (hb.mono SZw3) KTw3.out hk0); have KRwa := Lib.hid (below_blk (hb.mono SZw3) KRw3.out hk1); have BTwa := Lib.hid (BTw3.out.trans ((hb.mono SZw3).mono hk2)); have SZwa := Nat.le_trans SZw3 ((hb.mono SZw3)).size; have Swa := tri KTwa.out; clear hb ho)
    | (go_at_call 26; (with_reducible refine (PL.out wa BTwa.out SZwa (F3.out.below (below_drew2 BCwa.out))).mono ?_); rintro e wb ⟨G4, rfl, hf4, hr4, hb4, hg4⟩; have Fwb := Lib.hid hf4; have Rwb := Lib.hid hr4; have GGwb := Lib.hid hg4; have KTwb := Lib.hid (below_blk hb4 KTwa.out hk0); have KRwb := Lib.hid (below_blk hb4 KRwa.out hk1); have BTwb := Lib.hid (BTwa.out.trans (hb4.mono hk2)); have SZwb := Nat.le_trans SZwa (hb4).size; have Swb := tri KTwb.out; clear hf4 hr4 hb4 hg4)
    | (go_at_call 32; (with_reducible refine (NO.out wb _ (Fwb.out) (GGwb.out) SZwb).mono ?_); rintro e wc ⟨AN', cN', G5, rfl, hn5, hr5, hb5⟩; have Nwc := Lib.hid hn5; have Rwc := Lib.hid hr5; have KTwc := Lib.hid (below_blk hb5 KTwb.out hk0); have KRwc := Lib.hid (below_blk hb5 KRwb.out hk1); have BTwc := Lib.hid (BTwb.out.trans (hb5.mono hk2)); have SZwc := Nat.le_trans SZwb (hb5).size; have Swc := tri KTwc.out; have S8 := tri (((KTwc.out.far (p := ⟨w.heap.size + 1, 0, none⟩) hkne (.int .i64 (sn : Int))).far (p := ⟨w.heap.size + 1, 1, none⟩) hkne (.slice AI T.n cI)).far (p := ⟨w.heap.size + 1, 2, none⟩) hkne (.slice AN' S'.out.length cN')); obtain ⟨z0, z1, z2, z3, z4, z5, z6⟩ := KRwc.out.three6; clear hn5 hr5 hb5))
  all_goals
    go_wp2
    have q9 := own_q (w0 := w) OCwa.out (Rwb.out.trans Rwc.out) (fun k hk => .inl (GL.out k hk)) (by omega)
    have n9 := Nwc.out
    obtain ⟨hts, hbz⟩ := red_fin (sn := sn) (f := T.f) (n := T.n) (cI := cI) (KRwc.out) q9.1 q9.2 n9 (by omega) BTwc.out
    have KZ := ((KRwc.out.set_ 0 (.int .i64 (sn : Int))).set_ 1 (.slice AI T.n cI)).set_ 2 (.slice AN' S'.out.length cN')
    have KZ : Blk (((wc.setCell ⟨w.heap.size + 1, 0, none⟩ (.int .i64 (sn : Int))).setCell ⟨w.heap.size + 1, 1, none⟩ (.slice AI T.n cI)).setCell ⟨w.heap.size + 1, 2, none⟩ (.slice AN' S'.out.length cN')) (w.heap.size + 1) 25 #[.int .i64 (sn : Int), .slice AI T.n cI, .slice AN' S'.out.length cN'] := by simpa using KZ
    obtain ⟨y0, y1, y2, y3⟩ := KZ.three
    exact bodyPost_ret (v := .agg #[.int .i64 (sn : Int), .slice AI T.n cI, .slice AN' S'.out.length cN']) (by simp [results, Tryd.results11, go_sem, y0, y1, y2]) rfl ⟨AI, cI, AN', cN', rfl, hts, fun H H' w'' hf hH => red_keep q9.1 q9.2 n9 (by omega) H H' w'' hf hH, hbz⟩
end Go.Proofs.YthgnjjpkmikokaaDoor
namespace Go.Proofs.YthgnjjpkmikokaaDoor
open Go.RowKit

theorem isState2_any (s n : Int) (w : World) : Calls Tryd.prog 39 #[.int .i64 s, .int .i64 n] w fun e w' => e = .returned (.bool (sta s n)) ∧ w = w' := by
  by_cases h : 0 ≤ n
  · rw [sta, decide_eq_true h]
    go_enter Tryd.func39, Tryd.ntmps39
    go_wp2
    go_ret
    exact ⟨ret_bool (by simp), rfl⟩
  · rw [sta, decide_eq_false h]
    go_enter Tryd.func39, Tryd.ntmps39
    go_wp2
    go_ret
    exact ⟨rfl, rfl⟩

set_option maxRecDepth 100000 in
set_option maxHeartbeats 16000000 in
theorem fix_any {T U : Tr} {sn k s : Nat} {AH AN : Option Addr} {cH cN : Nat} {w : World} {nums : List Int} {L : List Ndv} {r : Int} {S' : Wk Unit} (hst : T.st = (sn : Int)) (h : TS w AH AN T) (hT : Rt T) (h2 : ∀ i, i < T.m → (T.nx i).length = 2) (hk : k < T.n) (hs : s < 2) (hsn : sn = 2)
    (hcap : ∀ g o, AN = some ⟨g, o, none⟩ → ∀ k, k < T.m → ∀ A n c, w.cell? ⟨g, o + (k * 2 + 1), none⟩ = some (.slice A n c) → n ≤ c ∧ c ≤ maxLen)
    (hU : U = ⟨(sn : Int), T.n, T.f, T.m, T.lv, nxC T.lv T.nx ((T.n : Int) - (k : Int)) (fun l => [ig l s, ig l s]) T.m⟩) (hUr : Rt U) (hp : plantF (sn : Int) U.lv U.nx U.m [] = some (nums, L)) (hn : I32 (ig nums (U.m - 1)))
    (hv : visitF sn (elN (sn : Int) L) U.n (ig nums (U.m - 1)) ⟨(), [], []⟩ = some (r, S')) :
    Calls Tryd.prog 16 #[.agg #[.int .i64 (sn : Int), .slice AH T.n cH, .slice AN T.m cN], .int .i64 (k : Int), .int .i64 (s : Int)] w fun e w' => ∃ AI cI AN' cN', e = .returned (.tuple #[.agg #[.int .i64 (sn : Int), .slice AI T.n cI, .slice AN' S'.out.length cN'], .int .i64 0]) ∧ TS w' AI AN' (trO sn T.n T.f S'.out) ∧ Below w.heap.size w w' := by
  have n25 := hT.hd.1.2
  have m1 : 1 ≤ T.m := hT.m1
  have m2 : T.m ≤ 5000 := by have := hT.m2; omega
  have RI := Lib.hid (fun w' (hb : Below w.heap.size w w') => tright_yes AH cH AN cN T w' (h.later hb) hT)
  rw [hst] at RI
  have IS := Lib.hid (fun w' => show Calls Tryd.prog 39 #[.int .i64 (sn : Int), .int .i64 (s : Int)] w' fun e w'' => e = .returned (.bool true) ∧ w' = w'' from by
    have := isState2_any (sn : Int) (s : Int) w'
    rwa [show sta (sn : Int) (s : Int) = true from (sta_iff _ _).2 (by omega)] at this)
  have CH := Lib.hid (fun w' (hb : Below w.heap.size w w') (hbox : w'.cell? ⟨w.heap.size + 1, 0, none⟩ = some (.int .i64 (s : Int))) (hlt : w.heap.size + 1 < w'.heap.size) => changedFix_any (w := w') (AH := AH) (AN := AN) (n := T.n) (m := T.m) (cH := cH) (cN := cN) (st := (sn : Int)) (level := (T.n : Int) - (k : Int)) (ch := fun l => [ig l s, ig l s]) (gb := w.heap.size + 1) (h.2.later hb) m1 m2 h2 (fun _ _ => rfl)
    (fun g o e k' hk' A n c hc => by
      obtain ⟨g', o', e', hg', _⟩ := h.2 (by omega)
      rw [e'] at e
      injection e with e
      injection e with e1 e2
      subst e1 e2
      exact hcap g' o' e' k' hk' A n c ((hb.cell (p := ⟨g', _, none⟩) hg').symm.trans hc))
    (fun w'' A c k' hb' hk' _ hr h3 h4 => fix1_any s hs (T.nx k') (h2 k' hk') A c (w.heap.size + 1) w'' hr h3 h4 ((hb'.cell (p := ⟨w.heap.size + 1, 0, none⟩) hlt).trans hbox)))
  subst hU
  have RE := Lib.hid (fun w' AN' c (hq : QReads w' w'.heap.size AH T.n T.f) (hr : NR w' w'.heap.size AN' T.m T.lv (nxC T.lv T.nx ((T.n : Int) - (k : Int)) (fun l => [ig l s, ig l s]) T.m)) =>
    show Calls Tryd.prog 11 #[.agg #[.int .i64 (sn : Int), .slice AH T.n cH, .slice AN' T.m c]] w' fun e w'' => ∃ AI cI AN' cN', e = .returned (.agg #[.int .i64 (sn : Int), .slice AI T.n cI, .slice AN' S'.out.length cN']) ∧ TS w'' AI AN' (trO sn T.n T.f S'.out) ∧ (∀ (H H' : Nat → Prop) (w3 : World), Fr H w'' H' w3 → (∀ k, H k → k < w'.heap.size) → TS w3 AI AN' (trO sn T.n T.f S'.out)) ∧ Below w'.heap.size w' w'' from
    reduce_keep (T := ⟨(sn : Int), T.n, T.f, T.m, T.lv, nxC T.lv T.nx ((T.n : Int) - (k : Int)) (fun l => [ig l s, ig l s]) T.m⟩) (w := w') (AH := AH) (cH := cH) (cN := c) (AN := AN') (sn := sn) rfl ⟨hq, hr⟩ hUr hp hn hv)
  have HQ := Lib.hid (show QReads w w.heap.size AH T.n T.f from h.1)
  clear h hT hst h2 hcap hUr hp hn hsn
  go_enter Tryd.func16, Tryd.ntmps16
  have Z1 := (Below.refl w.heap.size w).alloc (Nat.le_refl _) (.cells #[.int .i64 (sn : Int), .slice AH T.n cH, .slice AN T.m cN] 25)
  have Z2 := Z1.alloc Z1.size (.cells #[.int .i64 (s : Int)] 3)
  have Z3 := Lib.hid (Z2.alloc Z2.size (.cells #[.int .i64 0, .slice none 0 0, .slice none 0 0] 25))
  have KT := Lib.hid (((Blk.new w 25 #[.int .i64 (sn : Int), .slice AH T.n cH, .slice AN T.m cN]).alloc (.cells #[.int .i64 (s : Int)] 3)).alloc (.cells #[.int .i64 0, .slice none 0 0, .slice none 0 0] 25))
  have KS := (Blk.new (w.alloc (.cells #[.int .i64 (sn : Int), .slice AH T.n cH, .slice AN T.m cN] 25)) 3 #[.int .i64 (s : Int)]).alloc (.cells #[.int .i64 0, .slice none 0 0, .slice none 0 0] 25)
  have KR := Blk.new ((w.alloc (.cells #[.int .i64 (sn : Int), .slice AH T.n cH, .slice AN T.m cN] 25)).alloc (.cells #[.int .i64 (s : Int)] 3)) 25 #[.int .i64 0, .slice none 0 0, .slice none 0 0]
  simp only [World.size_alloc] at KS KR
  have KS := Lib.hid KS
  have KR := Lib.hid KR
  clear Z1 Z2
  obtain ⟨t0, t1, t2, t3⟩ := KT.out.three
  have d0 : decide ((k : Int) < 0) = false := by rw [decide_eq_false_iff_not]; omega
  have d1 : decide ((T.n : Int) ≤ (k : Int)) = false := by rw [decide_eq_false_iff_not]; omega
  have dw : IntKind.i64.wrap ((T.n : Int) - (k : Int)) = (T.n : Int) - (k : Int) := IntWalk.i64_in _ ⟨by omega, by omega⟩
  go_wp2_with (first
    | (go_at_call 21; (with_reducible refine (RI.out _ Z3.out).mono ?_); rintro e w1 ⟨rfl, hb⟩; have B1 := Lib.hid (Z3.out.trans (hb.mono Z3.out.size)); have KT1 := Lib.hid (KT.out.below hb KT.out.lt); have KS1 := Lib.hid (KS.out.below hb KS.out.lt); have KR1 := Lib.hid (KR.out.below hb KR.out.lt); clear hb; obtain ⟨u0, u1, u2, u3⟩ := KT1.out.three; obtain ⟨v0, v1, v2⟩ := KS1.out.one)
    | (go_at_call 39; (with_reducible refine (IS.out _).mono ?_); rintro e w2 ⟨rfl, rfl⟩)
    | (go_at_call 42; (with_reducible refine (CH.out _ B1.out v0 v2).mono ?_); rintro e w3 ⟨g, c, rfl, hnr, hb⟩; have N3 := Lib.hid hnr; have B3 := Lib.hid (B1.out.trans (hb.mono B1.out.size)); have KR3 := Lib.hid (KR1.out.below hb KR1.out.lt); clear hb hnr)
    | (go_at_call 11; (with_reducible refine (RE.out _ _ c (HQ.out.later B3.out) N3.out).mono ?_); rintro e w4 ⟨AI, cI, AN', cN', rfl, hts, hkp, hb⟩; have HKP := Lib.hid hkp; have SZ := Lib.hid KR3.out.lt; have B4 := Lib.hid (B3.out.trans (hb.mono B3.out.size)); have KR4 := Lib.hid (KR3.out.below hb KR3.out.lt); obtain ⟨z0, z1, z2, z3, z4, z5, z6⟩ := KR4.out.three6; clear hb hts hkp))
  have FZ := set3_fr w4 (w.heap.size + 1 + 1) (.int .i64 (sn : Int)) (.slice AI T.n cI) (.slice AN' S'.out.length cN')
  have KZ : Blk (((w4.setCell ⟨w.heap.size + 1 + 1, 0, none⟩ (.int .i64 (sn : Int))).setCell ⟨w.heap.size + 1 + 1, 1, none⟩ (.slice AI T.n cI)).setCell ⟨w.heap.size + 1 + 1, 2, none⟩ (.slice AN' S'.out.length cN')) (w.heap.size + 1 + 1) 25 #[.int .i64 (sn : Int), .slice AI T.n cI, .slice AN' S'.out.length cN'] := by simpa using ((KR4.out.set_ 0 (.int .i64 (sn : Int))).set_ 1 (.slice AI T.n cI)).set_ 2 (.slice AN' S'.out.length cN')
  obtain ⟨y0, y1, y2, y3⟩ := KZ.three
  exact bodyPost_ret (v := .tuple #[.agg #[.int .i64 (sn : Int), .slice AI T.n cI, .slice AN' S'.out.length cN'], .int .i64 0]) (by simp [results, Tryd.results16, go_sem, y0, y1, y2]) rfl ⟨AI, cI, AN', cN', rfl, HKP.out _ _ _ FZ (fun k hk => by have := SZ.out; omega), B4.out.trans (FZ.below (fun k hk => by omega) B4.out.size)⟩
end Go.Proofs.YthgnjjpkmikokaaDoor
namespace Go.Proofs.YthgnjjpkmikokaaDoor
open Go.RowKit

set_option maxRecDepth 100000 in
set_option maxHeartbeats 16000000 in
/-- Uses, from what Fix answers -/
theorem uses_any {T V : Tr} {sn k : Nat} {AH AN : Option Addr} {cH cN : Nat} {w : World} {nums nums' : List Int} {L L' : List Ndv} (hst : T.st = (sn : Int)) (hsv : V.st = (sn : Int)) (h : TS w AH AN T) (hT : Rt T) (hV : Rt V) (hs : sm T.f T.n V.f V.n = true)
    (hp : plantF (sn : Int) T.lv T.nx T.m [] = some (nums, L)) (hp' : plantF (sn : Int) V.lv V.nx V.m L = some (nums', L'))
    (hF : ∀ w', Below w.heap.size w w' → Calls Tryd.prog 16 #[.agg #[.int .i64 (sn : Int), .slice AH T.n cH, .slice AN T.m cN], .int .i64 (k : Int), .int .i64 0] w' fun e w'' => ∃ AI cI AN' cN', e = .returned (.tuple #[.agg #[.int .i64 (sn : Int), .slice AI V.n cI, .slice AN' V.m cN'], .int .i64 0]) ∧ TS w'' AI AN' V ∧ Below w'.heap.size w' w'') :
    Calls Tryd.prog 19 #[.agg #[.int .i64 (sn : Int), .slice AH T.n cH, .slice AN T.m cN], .int .i64 (k : Int)] w fun e w' => e = .returned (.bool (!decide (ig nums (T.m - 1) = ig nums' (V.m - 1)))) ∧ Below w.heap.size w w' := by
  have FX := Lib.hid hF
  have EQ := Lib.hid (fun w' AI cI AN' cN' (hb : Below w.heap.size w w') (hv : TS w' AI AN' V) => teq_any (sn := sn) (cH := cH) (cN := cN) (cH' := cI) (cN' := cN') hst hsv (h.later hb) hv hT hV hs hp hp')
  clear hF h hT hV hst hsv hs hp hp'
  generalize decide (ig nums (T.m - 1) = ig nums' (V.m - 1)) = q at EQ ⊢
  go_enter Tryd.func19, Tryd.ntmps19
  have Z1 := Lib.hid ((Below.refl w.heap.size w).alloc (Nat.le_refl _) (.cells #[.int .i64 (sn : Int), .slice AH T.n cH, .slice AN T.m cN] 25))
  have KT := Lib.hid (Blk.new w 25 #[.int .i64 (sn : Int), .slice AH T.n cH, .slice AN T.m cN])
  obtain ⟨t0, t1, t2, t3⟩ := KT.out.three
  go_wp2_with (first
    | (go_at_call 16; (with_reducible refine (FX.out _ Z1.out).mono ?_); rintro e w1 ⟨AI, cI, AN', cN', rfl, hts, hb⟩; have B1 := Lib.hid (Z1.out.trans (hb.mono Z1.out.size)); have TS1 := Lib.hid hts; have KT1 := Lib.hid (KT.out.below hb KT.out.lt); have K2 := Lib.hid (KT1.out.alloc (.cells #[.int .i64 (sn : Int), .slice AI V.n cI, .slice AN' V.m cN'] 25)); have KV := Lib.hid (Blk.new w1 25 #[.int .i64 (sn : Int), .slice AI V.n cI, .slice AN' V.m cN']); have BA := Lib.hid ((Below.refl w1.heap.size w1).alloc (Nat.le_refl _) (.cells #[.int .i64 (sn : Int), .slice AI V.n cI, .slice AN' V.m cN'] 25)); have B2 := Lib.hid (B1.out.trans (BA.out.mono B1.out.size)); have TS2 := Lib.hid (hts.later BA.out); clear hb hts; obtain ⟨u0, u1, u2, u3⟩ := K2.out.three; obtain ⟨v0, v1, v2, v3⟩ := KV.out.three)
    | (go_at_call 20; (with_reducible refine (EQ.out _ AI cI AN' cN' B2.out TS2.out).mono ?_); rintro e w3 ⟨rfl, hb⟩; have B3 := Lib.hid (B2.out.trans (hb.mono B2.out.size)); clear hb))
  go_ret
  exact ⟨ret_bool (by first | rfl | simp), B3.out⟩
end Go.Proofs.YthgnjjpkmikokaaDoor
namespace Go.Proofs.YthgnjjpkmikokaaDoor
open Go.RowKit

theorem mapFn_any (st : Int) (g : Nat) (x : Int) (w : World) (h : w.cell? ⟨g, 0, none⟩ = some (.int .i64 st)) :
    Calls Tryd.prog 43 #[.int .i64 x, .pointer (some ⟨g, 0, none⟩)] w fun e w' => e = .returned (.bool (!sta st x)) ∧ w = w' := by
  have IS := Lib.hid (fun w => isState2_any st x w)
  generalize sta st x = q at IS
  go_enter Tryd.func43, Tryd.ntmps43
  cases q <;> go_wp2_with (go_at_call 39; (with_reducible refine (IS.out _).mono ?_); rintro e w' ⟨rfl, rfl⟩)
  all_goals go_ret
  all_goals exact ⟨rfl, rfl⟩
theorem indexm_no {w : World} {AI : Option Addr} {cI : Nat} {l : List Int} (n : Nat) (st : Int) (g : Nat) (hg : w.cell? ⟨g, 0, none⟩ = some (.int .i64 st)) (h : Reads w w.heap.size AI n (il l)) (hn : n ≤ 1000000) (ha : als st l = true) :
    Calls Tryd.prog 66 #[.slice AI n cI, .func (.func 43) #[] #[.pointer (some ⟨g, 0, none⟩)]] w fun e w' => e = .returned (.int .i64 (-1)) ∧ w = w' := by
  have HL := Lib.hid (reads_len h)
  have H := Lib.hid h
  have HA := Lib.hid ((als_iff _ _).1 ha)
  have HG := Lib.hid hg
  clear h ha hg
  go_enter Tryd.func66, Tryd.ntmps66
  go_wp2
  go_loop [8] (fun iv => ∃ j : Nat, j ≤ n ∧ iv = .int .i64 (j : Int)) (fun iv => n - (intOf iv).toNat)
  case atStart => exact ⟨0, Nat.zero_le _, rfl⟩
  case round =>
    obtain ⟨j, hj, rfl⟩ := hrel
    by_cases hlt : j < n
    · obtain ⟨ad, rfl, hb, hc⟩ := il_at H.out hlt
      have E := mapFn_any st g (ig l j) w HG.out
      rw [show sta st (ig l j) = true from (sta_iff _ _).2 (HA.out j (by rw [HL.out]; exact hlt))] at E
      have E := Lib.hid E
      generalize ig l j = x at hc E
      go_wp2_with (go_at_call 43; (with_reducible refine E.out.mono ?_); rintro e w' ⟨rfl, rfl⟩)
      go_round
      case rel => exact ⟨j + 1, by omega, by go_num⟩
      case measure => simp [intOf]; omega
    · obtain rfl : j = n := by omega
      go_wp2
      go_ret
      exact ⟨rfl, rfl⟩

theorem containsm_no {w : World} {AI : Option Addr} {cI : Nat} {l : List Int} (n : Nat) (st : Int) (g : Nat) (hg : w.cell? ⟨g, 0, none⟩ = some (.int .i64 st)) (h : Reads w w.heap.size AI n (il l)) (hn : n ≤ 1000000) (ha : als st l = true) :
    Calls Tryd.prog 33 #[.slice AI n cI, .func (.func 43) #[] #[.pointer (some ⟨g, 0, none⟩)]] w fun e w' => e = .returned (.bool false) ∧ w = w' := by
  have I := Lib.hid (indexm_no (cI := cI) n st g hg h hn ha)
  clear hg h ha
  go_enter Tryd.func33, Tryd.ntmps33
  go_wp2_with (go_at_call 66; (with_reducible refine I.out.mono ?_); rintro e w' ⟨rfl, rfl⟩)
  go_ret
  exact ⟨rfl, rfl⟩
set_option maxRecDepth 100000 in
set_option maxHeartbeats 16000000 in
theorem map_any {T U : Tr} {sn : Nat} {tl : List Int} {AT : Option Addr} {cT : Nat} {AH AN : Option Addr} {cH cN : Nat} {w : World} {nums : List Int} {L : List Ndv} {r : Int} {S' : Wk Unit} (hst : T.st = (sn : Int)) (h : TS w AH AN T) (hT : Rt T) (h2 : ∀ i, i < T.m → (T.nx i).length = 2) (hsn : sn = 2) (htl : tl.length = 2) (hta : als (sn : Int) tl = true) (htr : Reads w w.heap.size AT 2 (il tl)) (hel : ∀ i, i < T.m → T.lv i = 1 → (0 ≤ ig (T.nx i) 0 ∧ ig (T.nx i) 0 < 2) ∧ (0 ≤ ig (T.nx i) 1 ∧ ig (T.nx i) 1 < 2))
    (hcap : ∀ g o, AN = some ⟨g, o, none⟩ → ∀ k, k < T.m → ∀ A n c, w.cell? ⟨g, o + (k * 2 + 1), none⟩ = some (.slice A n c) → n ≤ c ∧ c ≤ maxLen)
    (hU : U = ⟨(sn : Int), T.n, T.f, T.m, T.lv, nxC T.lv T.nx 1 (fun l => [ig tl (ig l 0).toNat, ig tl (ig l 1).toNat]) T.m⟩) (hUr : Rt U) (hp : plantF (sn : Int) U.lv U.nx U.m [] = some (nums, L)) (hn : I32 (ig nums (U.m - 1)))
    (hv : visitF sn (elN (sn : Int) L) U.n (ig nums (U.m - 1)) ⟨(), [], []⟩ = some (r, S')) :
    Calls Tryd.prog 17 #[.agg #[.int .i64 (sn : Int), .slice AH T.n cH, .slice AN T.m cN], .slice AT 2 cT] w fun e w' => ∃ AI cI AN' cN', e = .returned (.tuple #[.agg #[.int .i64 (sn : Int), .slice AI T.n cI, .slice AN' S'.out.length cN'], .int .i64 0]) ∧ TS w' AI AN' (trO sn T.n T.f S'.out) ∧ Below w.heap.size w w' := by
  have n25 := hT.hd.1.2
  have m1 : 1 ≤ T.m := hT.m1
  have m2 : T.m ≤ 5000 := by have := hT.m2; omega
  have RI := Lib.hid (fun w' (hb : Below w.heap.size w w') => tright_yes AH cH AN cN T w' (h.later hb) hT)
  rw [hst] at RI
  have IS := Lib.hid (fun w' (hb : Below w.heap.size w w') (hg : w'.cell? ⟨w.heap.size, 0, none⟩ = some (.int .i64 (sn : Int))) => containsm_no (cI := cT) 2 (sn : Int) w.heap.size hg (htr.later hb) (by omega) hta)
  have CH := Lib.hid (fun w' (hb : Below w.heap.size w w') (hbox : w'.cell? ⟨w.heap.size + 1, 0, none⟩ = some (.slice AT 2 cT)) (hlt : w.heap.size + 1 < w'.heap.size) => changedMap_any (w := w') (AH := AH) (AN := AN) (n := T.n) (m := T.m) (cH := cH) (cN := cN) (st := (sn : Int)) (level := 1) (ch := fun l => [ig tl (ig l 0).toNat, ig tl (ig l 1).toNat]) (gb := w.heap.size + 1) (h.2.later hb) m1 m2 h2 (fun _ _ => rfl)
    (fun g o e k' hk' A n c hc => by
      obtain ⟨g', o', e', hg', _⟩ := h.2 (by omega)
      rw [e'] at e
      injection e with e
      injection e with e1 e2
      subst e1 e2
      exact hcap g' o' e' k' hk' A n c ((hb.cell (p := ⟨g', _, none⟩) hg').symm.trans hc))
    (fun w'' A c k' hb' hk' hl' hr h3 h4 => map2_any (T.nx k') tl (h2 k' hk') htl (hel k' hk' hl').1 (hel k' hk' hl').2 A AT c cT (w.heap.size + 1) w'' hr ((htr.later hb).later hb') ((hb'.cell (p := ⟨w.heap.size + 1, 0, none⟩) hlt).trans hbox) (Nat.lt_of_lt_of_le hlt hb'.size)))
  subst hU
  have RE := Lib.hid (fun w' AN' c (hq : QReads w' w'.heap.size AH T.n T.f) (hr : NR w' w'.heap.size AN' T.m T.lv (nxC T.lv T.nx 1 (fun l => [ig tl (ig l 0).toNat, ig tl (ig l 1).toNat]) T.m)) =>
    show Calls Tryd.prog 11 #[.agg #[.int .i64 (sn : Int), .slice AH T.n cH, .slice AN' T.m c]] w' fun e w'' => ∃ AI cI AN' cN', e = .returned (.agg #[.int .i64 (sn : Int), .slice AI T.n cI, .slice AN' S'.out.length cN']) ∧ TS w'' AI AN' (trO sn T.n T.f S'.out) ∧ (∀ (H H' : Nat → Prop) (w3 : World), Fr H w'' H' w3 → (∀ k, H k → k < w'.heap.size) → TS w3 AI AN' (trO sn T.n T.f S'.out)) ∧ Below w'.heap.size w' w'' from
    reduce_keep (T := ⟨(sn : Int), T.n, T.f, T.m, T.lv, nxC T.lv T.nx 1 (fun l => [ig tl (ig l 0).toNat, ig tl (ig l 1).toNat]) T.m⟩) (w := w') (AH := AH) (cH := cH) (cN := c) (AN := AN') (sn := sn) rfl ⟨hq, hr⟩ hUr hp hn hv)
  have HQ := Lib.hid (show QReads w w.heap.size AH T.n T.f from h.1)
  have dsn : decide ((2 : Int) = (sn : Int)) = true := by rw [decide_eq_true_iff]; omega
  have dsn2 : ((2 : Int) == (sn : Int)) = true := by rw [hsn]; rfl
  have dsn3 : decide (¬ (2 : Int) = (sn : Int)) = false := by rw [hsn]; rfl
  have dsn4 : ((2 : Int) != (sn : Int)) = false := by rw [hsn]; rfl
  have dsn5 : (2 : Int) = (sn : Int) ↔ True := by rw [hsn]; simp
  have HSN := Lib.hid hsn
  clear h hT hst h2 hcap hUr hp hn hsn htl hta htr hel
  go_enter Tryd.func17, Tryd.ntmps17
  have Z1 := (Below.refl w.heap.size w).alloc (Nat.le_refl _) (.cells #[.int .i64 (sn : Int), .slice AH T.n cH, .slice AN T.m cN] 25)
  have Z2 := Z1.alloc Z1.size (.cells #[.slice AT 2 cT] 26)
  have Z3 := Lib.hid (Z2.alloc Z2.size (.cells #[.int .i64 0, .slice none 0 0, .slice none 0 0] 25))
  have KT := Lib.hid (((Blk.new w 25 #[.int .i64 (sn : Int), .slice AH T.n cH, .slice AN T.m cN]).alloc (.cells #[.slice AT 2 cT] 26)).alloc (.cells #[.int .i64 0, .slice none 0 0, .slice none 0 0] 25))
  have KS := (Blk.new (w.alloc (.cells #[.int .i64 (sn : Int), .slice AH T.n cH, .slice AN T.m cN] 25)) 26 #[.slice AT 2 cT]).alloc (.cells #[.int .i64 0, .slice none 0 0, .slice none 0 0] 25)
  have KR := Blk.new ((w.alloc (.cells #[.int .i64 (sn : Int), .slice AH T.n cH, .slice AN T.m cN] 25)).alloc (.cells #[.slice AT 2 cT] 26)) 25 #[.int .i64 0, .slice none 0 0, .slice none 0 0]
  simp only [World.size_alloc] at KS KR
  have KS := Lib.hid KS
  have KR := Lib.hid KR
  clear Z1 Z2
  obtain ⟨t0, t1, t2, t3⟩ := KT.out.three
  obtain ⟨x0, x1, x2⟩ := KS.out.one
  go_wp2_with (first
    | (go_at_call 21; (with_reducible refine (RI.out _ Z3.out).mono ?_); rintro e w1 ⟨rfl, hb⟩; have B1 := Lib.hid (Z3.out.trans (hb.mono Z3.out.size)); have KT1 := Lib.hid (KT.out.below hb KT.out.lt); have KS1 := Lib.hid (KS.out.below hb KS.out.lt); have KR1 := Lib.hid (KR.out.below hb KR.out.lt); clear hb; obtain ⟨u0, u1, u2, u3⟩ := KT1.out.three; obtain ⟨v0, v1, v2⟩ := KS1.out.one)
    | (go_at_call 33; (with_reducible refine (IS.out _ B1.out u0).mono ?_); rintro e w2 ⟨rfl, rfl⟩)
    | (go_at_call 42; (with_reducible refine (CH.out _ B1.out v0 v2).mono ?_); rintro e w3 ⟨g, c, rfl, hnr, hb⟩; have N3 := Lib.hid hnr; have B3 := Lib.hid (B1.out.trans (hb.mono B1.out.size)); have KR3 := Lib.hid (KR1.out.below hb KR1.out.lt); clear hb hnr)
    | (go_at_call 11; (with_reducible refine (RE.out _ _ c (HQ.out.later B3.out) N3.out).mono ?_); rintro e w4 ⟨AI, cI, AN', cN', rfl, hts, hkp, hb⟩; have HKP := Lib.hid hkp; have SZ := Lib.hid KR3.out.lt; have B4 := Lib.hid (B3.out.trans (hb.mono B3.out.size)); have KR4 := Lib.hid (KR3.out.below hb KR3.out.lt); obtain ⟨z0, z1, z2, z3, z4, z5, z6⟩ := KR4.out.three6; clear hb hts hkp))
  have FZ := set3_fr w4 (w.heap.size + 1 + 1) (.int .i64 (sn : Int)) (.slice AI T.n cI) (.slice AN' S'.out.length cN')
  have KZ : Blk (((w4.setCell ⟨w.heap.size + 1 + 1, 0, none⟩ (.int .i64 (sn : Int))).setCell ⟨w.heap.size + 1 + 1, 1, none⟩ (.slice AI T.n cI)).setCell ⟨w.heap.size + 1 + 1, 2, none⟩ (.slice AN' S'.out.length cN')) (w.heap.size + 1 + 1) 25 #[.int .i64 (sn : Int), .slice AI T.n cI, .slice AN' S'.out.length cN'] := by simpa using ((KR4.out.set_ 0 (.int .i64 (sn : Int))).set_ 1 (.slice AI T.n cI)).set_ 2 (.slice AN' S'.out.length cN')
  obtain ⟨y0, y1, y2, y3⟩ := KZ.three
  exact bodyPost_ret (v := .tuple #[.agg #[.int .i64 (sn : Int), .slice AI T.n cI, .slice AN' S'.out.length cN'], .int .i64 0]) (by simp [results, Tryd.results17, go_sem, y0, y1, y2]) rfl ⟨AI, cI, AN', cN', rfl, HKP.out _ _ _ FZ (fun k hk => by have := SZ.out; omega), B4.out.trans (FZ.below (fun k hk => by omega) B4.out.size)⟩
end Go.Proofs.YthgnjjpkmikokaaDoor
