/- The walk of choose, for two trees. -/
import Derived.Test.YthgnjjpkmikokaaDoorBau
namespace Go.Proofs.YthgnjjpkmikokaaDoor
open Go.RowKit

theorem reads_il {w : World} {g n : Nat} {t : TypeId} {l : List Int} (h : Blk w g t (il l).toArray) (hn : l.length = n) : Reads w w.heap.size (some ⟨g, 0, none⟩) n (il l) := by
  refine ⟨by simp [il, hn], fun _ => ⟨_, rfl, h.lt, fun i u hi => ?_⟩⟩
  have : (⟨g, 0, none⟩ : Addr).add i = ⟨g, i, none⟩ := by
    unfold Addr.add
    split
    · next h => subst h; rfl
    · simp
  rw [this, h.cell, ← hi]
  simp
set_option maxRecDepth 100000 in
set_option maxHeartbeats 16000000 in
theorem choose_any {T : Tr} {U : Nat → Tr} {sn fb gl B kf most : Nat} {AH AN : Option Addr} {cH cN : Nat} {AHs ANs : Nat → Option Addr} {cHs cNs : Nat → Nat} {w : World} {G : Nat → Prop} {Lf Lq : Nat → List Ndv} {rt qf : Nat → Int} {nM nV : List Int} {LM : List Ndv} {rM sel : Int} {SM : Wk Unit}
    (hsn : sn = 2) (hst : T.st = (sn : Int)) (hq : QReads w B AH T.n T.f) (hr : NR w B AN T.m T.lv T.nx) (hT : Rt T) (h2 : ∀ i, i < T.m → (T.nx i).length = 2) (hel : ∀ i, i < T.m → T.lv i = 1 → (0 ≤ ig (T.nx i) 0 ∧ ig (T.nx i) 0 < 2) ∧ (0 ≤ ig (T.nx i) 1 ∧ ig (T.nx i) 1 < 2))
    (hcap : ∀ g o, AN = some ⟨g, o, none⟩ → ∀ k, k < T.m → ∀ A n c, w.cell? ⟨g, o + (k * 2 + 1), none⟩ = some (.slice A n c) → n ≤ c ∧ c ≤ maxLen)
    (hB : B ≤ w.heap.size) (hf : Fo w fb G (sn : Int) (Lf 0)) (hG : ∀ k, G k → B ≤ k)
    (hus : ∀ i, i < 2 → (U i).st = (sn : Int) ∧ NR w B (ANs i) (U i).m (U i).lv (U i).nx ∧ Rt (U i)) (hgl : gl < B)
    (hl : ∀ i, i < 2 → w.cell? ⟨gl, i * 3, none⟩ = some (.int .i64 (sn : Int)) ∧ w.cell? ⟨gl, i * 3 + 1, none⟩ = some (.slice (AHs i) (U i).n (cHs i)) ∧ w.cell? ⟨gl, i * 3 + 2, none⟩ = some (.slice (ANs i) (U i).m (cNs i)))
    (hp : ∀ i, i < 2 → ∃ nu, plantF (sn : Int) (U i).lv (U i).nx (U i).m (Lf i) = some (nu, Lf (i + 1)) ∧ ig nu ((U i).m - 1) = rt i ∧ I32 (rt i)) (hne : rt 0 ≠ rt 1)
    (hUr : Rt ⟨(sn : Int), T.n, T.f, T.m, T.lv, nxC T.lv T.nx 1 (fun l => [ig [0, 1] (ig l 0).toNat, ig [0, 1] (ig l 1).toNat]) T.m⟩)
    (hpM : plantF (sn : Int) T.lv (nxC T.lv T.nx 1 (fun l => [ig [0, 1] (ig l 0).toNat, ig [0, 1] (ig l 1).toNat]) T.m) T.m [] = some (nM, LM)) (hnM : I32 (ig nM (T.m - 1)))
    (hvM : visitF sn (elN (sn : Int) LM) T.n (ig nM (T.m - 1)) ⟨(), [], []⟩ = some (rM, SM)) (hV : Rt (trO sn T.n T.f SM.out)) (hn2 : 2 ≤ T.n) (hn8 : T.n ≤ 8)
    (hmost : (most : Int) = 4096 * mxL (szF T.n (lvO SM.out) SM.out.length) (T.n - 1)) (hmost2 : most < 1000000)
    (hp2 : plantF (sn : Int) (lvO SM.out) (nxO SM.out) SM.out.length (Lf 2) = some (nV, Lq 0)) (hsel : ig nV (SM.out.length - 1) = sel) (hsi : I32 sel) (hq0 : qf 0 = -1)
    (hc : ∀ s : Nat, s < 2 → ∃ p Sp Sq, combF sn most (fun a b => whF (s : Int) a b) kf (sel, rt s) ⟨Lq s, []⟩ = some (p, Sp) ∧ combF sn most (fun a b => max a b) kf (qf s, p) ⟨Sp.L, []⟩ = some (qf (s + 1), Sq) ∧ Sq.M.length ≤ most ∧ Sq.L = Lq (s + 1)) :
    Calls Tryd.prog 49 #[.pointer (some ⟨fb, 0, none⟩), .agg #[.int .i64 (sn : Int), .slice AH T.n cH, .slice AN T.m cN], .slice (some ⟨gl, 0, none⟩) 2 2] w fun e w' =>
      ∃ G', e = .returned (.tuple #[.int .i32 (qf 2), .bool true]) ∧ I32 (qf 2) ∧ Fo w' fb G' (sn : Int) (Lq 2) ∧ Fr G w G' w' := by
  have n25 := hT.hd.1.2
  have mk1 := mk_i32_2
  have mk2 := mk_int_2
  have HF := Lib.hid hf
  have HG := Lib.hid hG
  have HUS := Lib.hid hus
  have HL := Lib.hid hl
  have HP := Lib.hid hp
  have HNE := Lib.hid hne
  have HQ := Lib.hid hq
  have HR := Lib.hid hr
  have HTT := Lib.hid hT
  have H2 := Lib.hid h2
  have HEL := Lib.hid hel
  have HCAP := Lib.hid hcap
  have HUR := Lib.hid hUr
  have HPM := Lib.hid hpM
  have HNM := Lib.hid hnM
  have HVM := Lib.hid hvM
  have HV := Lib.hid hV
  have HMO := Lib.hid hmost
  have HP2 := Lib.hid hp2
  have HSEL := Lib.hid hsel
  have HSI := Lib.hid hsi
  have HQ0 := Lib.hid hq0
  have HC := Lib.hid hc
  have HSN := Lib.hid hsn
  have HST := Lib.hid hst
  clear hf hG hus hl hp hne hq hr hT h2 hel hcap hUr hpM hnM hvM hV hmost hp2 hsel hsi hq0 hc hsn hst
  go_enter Tryd.func49, Tryd.ntmps49
  have K0 := Lib.hid (Blk.new w 25 #[.int .i64 (sn : Int), .slice AH T.n cH, .slice AN T.m cN])
  have B0 := Lib.hid ((Below.refl w.heap.size w).alloc (Nat.le_refl _) (.cells #[.int .i64 (sn : Int), .slice AH T.n cH, .slice AN T.m cN] 25))
  have S0 := Lib.hid (World.size_alloc w (.cells #[.int .i64 (sn : Int), .slice AH T.n cH, .slice AN T.m cN] 25))
  go_wp2
  generalize w.alloc (.cells #[.int .i64 (sn : Int), .slice AH T.n cH, .slice AN T.m cN] 25) = w1 at K0 B0 S0 ⊢
  have h1s := B0.out.size
  have h1l := K0.out.lt
  have CZA := Lib.hid (show Cz w G fb sn w1.heap.size (w1.heap.size + 1) w.heap.size #[.int .i64 (sn : Int), .slice AH T.n cH, .slice AN T.m cN] ((w1.alloc (.cells (r32 [0, 0]) 21)).alloc (.cells (il [0, 0]).toArray 3)).drew (Lf 0) (two rt 0) (two (fun j => (j : Int)) 0) from by
    have Bd : Below w.heap.size w ((w1.alloc (.cells (r32 [0, 0]) 21)).alloc (.cells (il [0, 0]).toArray 3)).drew := ((B0.out.alloc B0.out.size _).alloc (by rw [World.size_alloc]; have := B0.out.size; omega) _).drew
    have hlt := HF.out.st2.2.2.2.2.2.2.1
    have K9 := Blk.new (w1.alloc (.cells (r32 [0, 0]) 21)) 3 (il [0, 0]).toArray
    simp only [World.size_alloc] at K9
    exact ⟨G, HF.out.below Bd, Fr.of_below Bd, (Blk.new w1 21 (r32 [0, 0])).alloc _, K9, (K0.out.alloc _).alloc _, fun h => by have := hlt _ h; omega, fun h => by have := hlt _ h; omega, fun h => by have := hlt _ h; omega⟩)
  have CZB0 := Lib.hid (show Cz w G fb sn (w1.heap.size + 1) w1.heap.size w.heap.size #[.int .i64 (sn : Int), .slice AH T.n cH, .slice AN T.m cN] ((w1.alloc (.cells (il [0, 0]).toArray 3)).alloc (.cells (r32 [0, 0]) 21)).drew (Lf 0) (two rt 0) (two (fun j => (j : Int)) 0) from by
    have Bd : Below w.heap.size w ((w1.alloc (.cells (il [0, 0]).toArray 3)).alloc (.cells (r32 [0, 0]) 21)).drew := ((B0.out.alloc B0.out.size _).alloc (by rw [World.size_alloc]; have := B0.out.size; omega) _).drew
    have hlt := HF.out.st2.2.2.2.2.2.2.1
    have K9 := Blk.new (w1.alloc (.cells (il [0, 0]).toArray 3)) 21 (r32 [0, 0])
    simp only [World.size_alloc] at K9
    exact ⟨G, HF.out.below Bd, Fr.of_below Bd, K9, (Blk.new w1 3 (il [0, 0]).toArray).alloc _, (K0.out.alloc _).alloc _, fun h => by have := hlt _ h; omega, fun h => by have := hlt _ h; omega, fun h => by have := hlt _ h; omega⟩)
  go_cut [8, 9] from 19 to 24 (fun s8 s9 wx => ∃ g8 g9 : Nat, s8 = .slice (some ⟨g8, 0, none⟩) 2 2 ∧ s9 = .slice (some ⟨g9, 0, none⟩) 2 2 ∧ w.heap.size ≤ g8 ∧ w.heap.size ≤ g9 ∧ g8 ≠ g9 ∧ g8 ≠ w.heap.size ∧ g9 ≠ w.heap.size ∧ Cz w G fb sn g8 g9 w.heap.size #[.int .i64 (sn : Int), .slice AH T.n cH, .slice AN T.m cN] wx (Lf 0) (two rt 0) (two (fun j => (j : Int)) 0))
  case first =>
    go_region
    all_goals
      go_wp2_with fail
      go_meet
      first
        | exact ⟨_, _, rfl, rfl, by omega, by omega, by omega, by omega, by omega, CZA.out⟩
        | exact ⟨_, _, rfl, rfl, by omega, by omega, by omega, by omega, by omega, CZB0.out⟩
  case rest =>
    obtain ⟨g8, g9, rfl, rfl, l8, l9, h89, h81, h91, CZ⟩ := hcut
    clear K0 B0 S0 mk1 mk2 CZA CZB0 h1s h1l
    have CZ0 := Lib.hid CZ
    clear CZ
    go_wp2
    go_loopw [27] (fun jv wr => ∃ j : Nat, j ≤ 2 ∧ jv = .int .i64 (j : Int) ∧ Cz w G fb sn g8 g9 w.heap.size #[.int .i64 (sn : Int), .slice AH T.n cH, .slice AN T.m cN] wr (Lf j) (two rt j) (two (fun j => (j : Int)) j)) (fun jv _ => 2 - (intOf jv).toNat)
    case atStart => exact ⟨0, by omega, rfl, CZ0.out⟩
    case round =>
      obtain ⟨j, hj, rfl, hcz⟩ := hrel
      have CZ1 := Lib.hid hcz
      clear hcz
      by_cases hlt : j < 2
      · have d1 : decide ((j : Int) < 2) = true := by rw [decide_eq_true_iff]; omega
        have i0 : (0 : Int) ≤ (j : Int) := by omega
        have i1 : (j : Int) < 2 := by omega
        obtain ⟨Gj, f1, f2, fX⟩ := CZ1.out.forest
        have BB := Lib.hid (f2.below HG.out hB)
        have hglr : gl < wr.heap.size := by have := BB.out.size; omega
        have c0 := (BB.out.cell (p := ⟨gl, _, none⟩) hgl).trans (HL.out j hlt).1
        have c1 := (BB.out.cell (p := ⟨gl, _, none⟩) hgl).trans (HL.out j hlt).2.1
        have c2 := (BB.out.cell (p := ⟨gl, _, none⟩) hgl).trans (HL.out j hlt).2.2
        obtain ⟨us, un, ur⟩ := HUS.out j hlt
        obtain ⟨nu, p1, p2, p3⟩ := HP.out j hlt
        have GB : ∀ k, Gj k → B ≤ k := fun k hk => by
          rcases f2.new k hk with h | h
          · exact HG.out k h
          · omega
        have B2 := Lib.hid ((Below.refl wr.heap.size wr).alloc (Nat.le_refl _) (.cells #[.int .i64 (sn : Int), .slice (AHs j) (U j).n (cHs j), .slice (ANs j) (U j).m (cNs j)] 25))
        have PL := plant_any (w := wr.alloc (.cells #[.int .i64 (sn : Int), .slice (AHs j) (U j).n (cHs j), .slice (ANs j) (U j).m (cNs j)] 25)) (AH := AHs j) (nh := (U j).n) (ch := cHs j) (cN := cNs j) (B := B) (T := U j) (L := Lf j) (by rw [us]; exact f1.below B2.out) ur ((un.below BB.out).below (B2.out.mono (Nat.le_trans hB f2.size))) (Nat.le_trans (Nat.le_trans hB f2.size) B2.out.size) GB (by rw [us]; exact p1)
        rw [us, p2] at PL
        have PL := Lib.hid PL
        have FX := Lib.hid (fun w' G' L' a b => fX w' G' L' a ((show Fr Gj wr Gj (wr.alloc (.cells #[.int .i64 (sn : Int), .slice (AHs j) (U j).n (cHs j), .slice (ANs j) (U j).m (cNs j)] 25)) from Fr.of_below B2.out).trans b))
        obtain ⟨t0, t1, t2, t3⟩ := (Blk.new wr 25 #[.int .i64 (sn : Int), .slice (AHs j) (U j).n (cHs j), .slice (ANs j) (U j).m (cNs j)]).three
        clear f1 f2 fX us un ur p1 p2 p3 GB
        generalize (U j).n = un at *
        generalize (U j).m = um at *
        generalize AHs j = ah at *
        generalize ANs j = an at *
        generalize cHs j = ch at *
        generalize cNs j = cn at *
        go_upto_region 6 with (go_at_call 26; (with_reducible refine (PL.out).mono ?_); rintro e w3 ⟨G3, rfl, hf3, hr3⟩; have CZ3 := Lib.hid (FX.out w3 G3 _ hf3 hr3); clear hf3 hr3; obtain ⟨Gz, _, _, k8, k9, _⟩ := CZ3.out; have z0 := (k8.cell j).trans (r32_get (by rw [two_len]; exact hlt)); have z1 := k8.frozen j; clear k8 k9)
        have CZ4 := Lib.hid (CZ3.out.set8 l8 h89 h81 (two_r hlt))
        clear z0 z1 t0 t1 t2 t3 c0 c1 c2
        generalize w3.setCell ⟨g8, j, none⟩ (.int .i32 (rt j)) = w4 at CZ4 ⊢
        have hf9 := two_first HNE.out hlt
        obtain ⟨Gz, _, _, k8, k9, _⟩ := CZ4.out
        have IX := Lib.hid (index32_at (c := 2) k8 (two_len rt (j + 1)) (by omega) hlt (two_at hlt) hf9)
        have y0 := (k8.cell j).trans (r32_get (by rw [two_len]; exact hlt))
        rw [two_at hlt] at y0
        have y1 := (k9.cell j).trans (il_get (by rw [two_len]; exact hlt))
        have y2 := k9.frozen j
        have y8 := k8.lt
        have y9 := k9.lt
        clear k8 k9 hf9
        go_wp2_with (go_at_call 71; (with_reducible refine (IX.out).mono ?_); rintro e w5 ⟨rfl, rfl⟩)
        have CZ5 := Lib.hid (CZ4.out.set9 l9 h89 h91 (two_i (rt := fun j => (j : Int)) hlt))
        generalize w4.setCell ⟨g9, j, none⟩ (.int .i64 (j : Int)) = w5 at CZ5 ⊢
        clear y0 y1 y2
        go_wp2
        go_roundw
        case rel => exact ⟨j + 1, by omega, by go_num, CZ5.out⟩
        case measure => simp [intOf]; omega
      · obtain rfl : j = 2 := by omega
        obtain ⟨Gj, f1, f2, k8, k9, k1, n8, n9, n1⟩ := CZ1.out
        have BB := Lib.hid (f2.below HG.out hB)
        have hbr : B ≤ wr.heap.size := Nat.le_trans hB f2.size
        have GLT := Lib.hid f1.st2.2.2.2.2.2.2.1
        have hb1 : w.heap.size < wr.heap.size := k1.lt
        have MP := Lib.hid (map_keep (w := wr) (sn := sn) (T := T) (AH := AH) (AN := AN) (cH := cH) (cN := cN) (tl := [0, 1]) (AT := some ⟨g9, 0, none⟩) (cT := 2) HST.out ⟨(HQ.out.below BB.out).more hbr, (HR.out.below BB.out).more hbr⟩ HTT.out H2.out HSN.out rfl (by rw [HSN.out]; rfl) (reads_il k9 rfl) HEL.out
          (fun g o e k' hk' A n c hc => by
            obtain ⟨g', o', e', hg', _⟩ := HR.out (by omega)
            rw [e'] at e
            injection e with e
            injection e with e1 e2
            subst e1 e2
            exact HCAP.out g' o' e' k' hk' A n c ((BB.out.cell (p := ⟨g', _, none⟩) hg').symm.trans hc)) rfl HUR.out HPM.out HNM.out HVM.out)
        obtain ⟨t0, t1, t2, t3⟩ := k1.three
        have F1 := Lib.hid f1
        have F2 := Lib.hid f2
        have K8 := Lib.hid k8
        have K9 := Lib.hid k9
        have K1 := Lib.hid k1
        have N8 := Lib.hid n8
        have N9 := Lib.hid n9
        have N1 := Lib.hid n1
        clear f1 f2 k8 k9 k1 n8 n9 n1
        go_upto_region 9 with (go_at_call 17; (with_reducible refine (MP.out).mono ?_); rintro e wm ⟨AI, cI, AN', cN', rfl, hts, hkp, hb⟩; have HKP := Lib.hid hkp; have BM := Lib.hid hb; have KM := Lib.hid (K1.out.below hb K1.out.lt); clear hts hkp hb; obtain ⟨z0, z1, z2, z3, z4, z5, z6⟩ := KM.out.three6)
        have FZ := set3_fr wm w.heap.size (.int .i64 (sn : Int)) (.slice AI T.n cI) (.slice AN' SM.out.length cN')
        have KEEP := Lib.hid (show ∀ (H H' : Nat → Prop) (w3 : World), Fr H (((wm.setCell ⟨w.heap.size, 0, none⟩ (.int .i64 (sn : Int))).setCell ⟨w.heap.size, 1, none⟩ (.slice AI T.n cI)).setCell ⟨w.heap.size, 2, none⟩ (.slice AN' SM.out.length cN')) H' w3 → (∀ k, H k → k < wr.heap.size) → TS w3 AI AN' (trO sn T.n T.f SM.out) from fun H H' w3 hf hH =>
          HKP.out (fun k => k = w.heap.size ∨ H k) (fun k => k = w.heap.size ∨ H k ∨ H' k) w3 ((FZ.weak (H := fun k => k = w.heap.size ∨ H k) (H' := fun k => k = w.heap.size ∨ H k) (fun k hk => .inl hk) (fun k hk => .inl hk)).trans (hf.weak (H := fun k => k = w.heap.size ∨ H k) (fun k hk => .inr hk) (fun k hk => hk.elim (fun h => .inl (.inl h)) (fun h => h.elim (fun h => .inl (.inr h)) (fun h => (hf.new k h).elim (fun h => .inl (.inr h)) .inr))))) (fun k hk => hk.elim (fun h => by omega) (hH k)))
        have K5 : Blk (((wm.setCell ⟨w.heap.size, 0, none⟩ (.int .i64 (sn : Int))).setCell ⟨w.heap.size, 1, none⟩ (.slice AI T.n cI)).setCell ⟨w.heap.size, 2, none⟩ (.slice AN' SM.out.length cN')) w.heap.size 25 #[.int .i64 (sn : Int), .slice AI T.n cI, .slice AN' SM.out.length cN'] := by simpa using ((KM.out.set_ 0 (.int .i64 (sn : Int))).set_ 1 (.slice AI T.n cI)).set_ 2 (.slice AN' SM.out.length cN')
        have F5 : Fo (((wm.setCell ⟨w.heap.size, 0, none⟩ (.int .i64 (sn : Int))).setCell ⟨w.heap.size, 1, none⟩ (.slice AI T.n cI)).setCell ⟨w.heap.size, 2, none⟩ (.slice AN' SM.out.length cN')) fb Gj (sn : Int) (Lf 2) := (F1.out.below BM.out).keep FZ (fun k hk e => N1.out (e ▸ hk))
        have R5 : Fr G w Gj (((wm.setCell ⟨w.heap.size, 0, none⟩ (.int .i64 (sn : Int))).setCell ⟨w.heap.size, 1, none⟩ (.slice AI T.n cI)).setCell ⟨w.heap.size, 2, none⟩ (.slice AN' SM.out.length cN')) := (((F2.out.trans (Fr.of_below BM.out)).set_new (p := ⟨w.heap.size, 0, none⟩) (Nat.le_refl _) _).set_new (p := ⟨w.heap.size, 1, none⟩) (Nat.le_refl _) _).set_new (p := ⟨w.heap.size, 2, none⟩) (Nat.le_refl _) _
        have K85 := (((K8.out.below BM.out K8.out.lt).far (p := ⟨w.heap.size, 0, none⟩) h81 (.int .i64 (sn : Int))).far (p := ⟨w.heap.size, 1, none⟩) h81 (.slice AI T.n cI)).far (p := ⟨w.heap.size, 2, none⟩) h81 (.slice AN' SM.out.length cN')
        have K95 := (((K9.out.below BM.out K9.out.lt).far (p := ⟨w.heap.size, 0, none⟩) h91 (.int .i64 (sn : Int))).far (p := ⟨w.heap.size, 1, none⟩) h91 (.slice AI T.n cI)).far (p := ⟨w.heap.size, 2, none⟩) h91 (.slice AN' SM.out.length cN')
        clear z0 z1 z2 z3 z4 z5 z6 t0 t1 t2 t3 FZ
        generalize (((wm.setCell ⟨w.heap.size, 0, none⟩ (.int .i64 (sn : Int))).setCell ⟨w.heap.size, 1, none⟩ (.slice AI T.n cI)).setCell ⟨w.heap.size, 2, none⟩ (.slice AN' SM.out.length cN')) = w5 at KEEP K5 F5 R5 K85 K95 ⊢
        have K5 := Lib.hid K5
        have F5 := Lib.hid F5
        have R5 := Lib.hid R5
        have K85 := Lib.hid K85
        have K95 := Lib.hid K95
        have TS5 := KEEP.out (fun _ => False) (fun _ => False) w5 (Fr.refl _ _) (fun _ h => h.elim)
        have SZ := Lib.hid (show Calls Tryd.prog 73 #[.agg #[.int .i64 (sn : Int), .slice AI T.n cI, .slice AN' SM.out.length cN']] w5 fun e w' => ∃ g, e = .returned (.slice (some ⟨g, 0, none⟩) T.n T.n) ∧ Blk w' g 3 (il (szF T.n (lvO SM.out) SM.out.length)).toArray ∧ Below w5.heap.size w5 w' from tsize_any AI AN' cI cN' (trO sn T.n T.f SM.out) w5 TS5 HV.out hn2 hn8)
        have MX := Lib.hid (fun w6 g (h : Blk w6 g 3 (il (szF T.n (lvO SM.out) SM.out.length)).toArray) => by
          have := max_any (n := T.n - 1) (c := T.n) h (by rw [szF_len]; omega) (by omega)
          rwa [Nat.sub_add_cancel (by omega)] at this)
        have PK := Lib.hid (fun w6 (hb : Below w5.heap.size w5 w6) => by
          have := plant_keep (w := w6) (AH := AI) (nh := T.n) (ch := cI) (AN := AN') (cN := cN') (T := (trO sn T.n T.f SM.out)) (F5.out.below hb) HV.out (fun G1 w1 hf => (KEEP.out Gj G1 w1 ((Fr.of_below hb).trans hf) GLT.out).2) HP2.out
          rw [show ((trO sn T.n T.f SM.out)).m = SM.out.length from rfl, HSEL.out] at this
          exact show Calls Tryd.prog 26 #[.pointer (some ⟨fb, 0, none⟩), .agg #[.int .i64 (sn : Int), .slice AI T.n cI, .slice AN' SM.out.length cN']] w6 _ from this)
        have HMO2 := HMO.out
        generalize mxL (szF T.n (lvO SM.out) SM.out.length) (T.n - 1) = mx at HMO2 MX
        have cw : IntKind.i64.wrap (4096 * mx) = (most : Int) := by rw [← HMO2]; exact IntWalk.i64_in _ ⟨by omega, by omega⟩
        obtain ⟨t0, t1, t2, t3⟩ := K5.out.three
        clear TS5
        go_wp2_with (first
          | (go_at_call 73; (with_reducible refine (SZ.out).mono ?_); rintro e w6 ⟨gs, rfl, hsz, hb⟩; have MX6 := Lib.hid (MX.out w6 gs hsz); have B6 := Lib.hid hb; have K6 := Lib.hid (K5.out.below hb K5.out.lt); obtain ⟨u0, u1, u2, u3⟩ := K6.out.three; clear hsz hb)
          | (go_at_call 72; (with_reducible refine (MX6.out).mono ?_); rintro e w7 ⟨rfl, rfl⟩)
          | (go_at_call 26; (with_reducible refine (PK.out w6 B6.out).mono ?_); rintro e w7 ⟨G7, rfl, hf7, hr7⟩; have F7 := Lib.hid hf7; have R7 := Lib.hid hr7; clear hf7 hr7))
        have CZ7 : Cz w G fb sn g8 g9 w.heap.size #[.int .i64 (sn : Int), .slice AI T.n cI, .slice AN' SM.out.length cN'] w7 (Lq 0) (two rt 2) (two (fun j => (j : Int)) 2) := by
          obtain ⟨Gj2, a1, a2, aX⟩ := Cz.forest (⟨Gj, F5.out.below B6.out, R5.out.trans (Fr.of_below B6.out), K85.out.below B6.out K85.out.lt, K95.out.below B6.out K95.out.lt, K6.out, N8.out, N9.out, N1.out⟩ : Cz w G fb sn g8 g9 w.heap.size #[.int .i64 (sn : Int), .slice AI T.n cI, .slice AN' SM.out.length cN'] w6 (Lf 2) (two rt 2) (two (fun j => (j : Int)) 2))
          refine ⟨G7, F7.out, (R5.out.trans (Fr.of_below B6.out)).trans R7.out, R7.out.blk (K85.out.below B6.out K85.out.lt) N8.out, R7.out.blk (K95.out.below B6.out K95.out.lt) N9.out, R7.out.blk K6.out N1.out, fun hk => ?_, fun hk => ?_, fun hk => ?_⟩
          · rcases R7.out.new _ hk with q | q
            · exact N8.out q
            · have := (K85.out.below B6.out K85.out.lt).lt; omega
          · rcases R7.out.new _ hk with q | q
            · exact N9.out q
            · have := (K95.out.below B6.out K95.out.lt).lt; omega
          · rcases R7.out.new _ hk with q | q
            · exact N1.out q
            · have := K6.out.lt; omega
        have CZ7 := Lib.hid CZ7
        have hq0i : I32 (qf 0) := by rw [HQ0.out]; exact ⟨by omega, by omega⟩
        clear t0 t1 t2 t3 u0 u1 u2 u3
        have HQ0I := Lib.hid hq0i
        clear hq0i
        go_loopw [14, 15, 16] (fun qv fv jv wr => ∃ s : Nat, s ≤ 2 ∧ jv = .int .i64 (s : Int) ∧ qv = .int .i32 (qf s) ∧ fv = .bool true ∧ I32 (qf s) ∧ Cz w G fb sn g8 g9 w.heap.size #[.int .i64 (sn : Int), .slice AI T.n cI, .slice AN' SM.out.length cN'] wr (Lq s) (two rt 2) (two (fun j => (j : Int)) 2)) (fun _ _ jv _ => 2 - (intOf jv).toNat)
        case atStart => exact ⟨0, by omega, rfl, by rw [HQ0.out], rfl, HQ0I.out, CZ7.out⟩
        case round =>
          obtain ⟨s, hs, rfl, rfl, rfl, hqi, hcz⟩ := hrel
          have CZ8 := Lib.hid hcz
          have HQI := Lib.hid hqi
          clear hcz hqi
          obtain ⟨Gs, e1, e2, eX⟩ := CZ8.out.forest
          have y8 := (show Cz w G fb sn g8 g9 w.heap.size #[.int .i64 (sn : Int), .slice AI T.n cI, .slice AN' SM.out.length cN'] wr (Lq s) (two rt 2) (two (fun j => (j : Int)) 2) from CZ8.out)
          obtain ⟨Gy, _, _, k8, k9, _, _, _, _⟩ := y8
          by_cases hlt : s < 2
          · have d1 : decide ((s : Int) < 2) = true := by rw [decide_eq_true_iff]; omega
            have i0 : (0 : Int) ≤ (s : Int) := by omega
            have i1 : (s : Int) < 2 := by omega
            have d2 : ((s : Int) == (s : Int)) = true := by simp
            obtain ⟨p, Sp, Sq, m1, m2, m3, m4⟩ := HC.out s hlt
            have hrs : ig (two rt 2) s = rt s := by
              obtain rfl | rfl : s = 0 ∨ s = 1 := by omega
              · rfl
              · rfl
            have hfs : ig (two (fun j => (j : Int)) 2) s = (s : Int) := by
              obtain rfl | rfl : s = 0 ∨ s = 1 := by omega
              · rfl
              · rfl
            have z8 := (k8.cell s).trans (r32_get (by rw [two_len]; exact hlt))
            have z9 := (k9.cell s).trans (il_get (by rw [two_len]; exact hlt))
            rw [hrs] at z8
            rw [hfs] at z9
            have y8 := k8.lt
            have y9 := k9.lt
            have S8 := Lib.hid (show wr.drew.cell? ⟨g8, s, none⟩ = some (.int .i32 (rt s)) from z8)
            obtain ⟨nu, _, _, hri⟩ := HP.out s hlt
            have WH := Lib.hid (fun w' => where_any (s : Int) w')
            have E1 := Lib.hid e1
            have EX := Lib.hid eX
            have GLS := Lib.hid e1.st2.2.2.2.2.2.2.1
            have s22 := HSN.out
            have CO := Lib.hid (fun (wa : World) (hb : Below wr.heap.size wr wa) (hk : Blk wa wr.heap.size 3 #[.int .i64 (s : Int)]) => by
              have := combine_any (vf := fun a b => whF (s : Int) a b) (sn := sn) (most := most) (k := kf) (w := wa) (by omega) (by omega) (by omega) (where_vfn (s : Int) wr.heap.size) (enters_of Tryd.func87 (by kernel_rfl) rfl) (E1.out.below hb) HSI.out hri hk (fun k hk hg => by have := GLS.out k hg; omega) m1
              rw [HMO2] at this
              exact this)
            have CP := Lib.hid (fun (wb : World) (Gb : Nat → Prop) (hf : Fo wb fb Gb (sn : Int) Sp.L) (hpi : I32 p) => by
              have := combine_any (vf := fun a b => max a b) (sn := sn) (most := most) (k := kf) (w := wb) (by omega) (by omega) (by omega) either_vfn (enters_of Tryd.func76 (by kernel_rfl) rfl) hf HQI.out hpi trivial (fun k hk => hk.elim) m2
              rw [show decide (Sq.M.length ≤ most) = true from decide_eq_true m3, m4, HMO2] at this
              exact this)
            clear s22
            clear e1 eX e2 k8 k9 m1 m2 m3 m4 hrs hfs hri
            go_wp2
            clear z8
            go_region_held_law (fun w' => w'.cell? ⟨g8, s, none⟩ = some (.int .i32 (rt s))) (first | assumption | exact S8.out | go_keep)
              (first
              | (go_at_call 75; (with_reducible refine (WH.out _).mono ?_); rintro e wa ⟨rfl, hk, hsz, hb⟩; have BA := Lib.hid (show Below wr.heap.size wr wa from below_undrew hb); have KA := Lib.hid (show Blk wa wr.heap.size 3 #[.int .i64 (s : Int)] from hk); have SA := (show wa.cell? ⟨g8, s, none⟩ = some (.int .i32 (rt s)) from (BA.out.cell (p := ⟨g8, s, none⟩) y8).trans S8.out); clear hk hsz hb)
              | (go_at_call 74; (with_reducible refine (CO.out wa BA.out KA.out).mono ?_); rintro e wb ⟨Gb, rfl, hpi, hfb, hrb⟩; have PI := Lib.hid hpi; have CZB := Lib.hid (EX.out wb Gb Sp.L hfb ((Fr.of_below BA.out).trans hrb)); have SB := (show wb.cell? ⟨g8, s, none⟩ = some (.int .i32 (rt s)) from CZB.out.at8 hlt); clear hpi hfb hrb))
            all_goals
              obtain ⟨Gc, g1, g2, gX⟩ := CZB.out.forest
              have CQ := Lib.hid (CP.out wb Gc g1 PI.out)
              have GX := Lib.hid gX
              clear g1 g2 gX
              go_wp2_with (go_at_call 74; (with_reducible refine (CQ.out).mono ?_); rintro e wc ⟨Gd, rfl, hqi, hfc, hrc⟩; have QI := Lib.hid hqi; have CZ9 := Lib.hid (GX.out wc Gd _ hfc hrc); clear hqi hfc hrc)
              go_roundw
              case rel => exact ⟨s + 1, by omega, by go_num, rfl, rfl, QI.out, CZ9.out⟩
              case measure => simp [intOf]; omega
          · obtain rfl : s = 2 := by omega
            go_wp2
            exact bodyPost_ret (v := .tuple #[.int .i32 (qf 2), .bool true]) (by simp [results, Tryd.results49, go_sem]) rfl ⟨Gs, rfl, HQI.out, e1, e2⟩
end Go.Proofs.YthgnjjpkmikokaaDoor
