/- The walk of Reduce. -/
import Derived.Test.YtcgkkppidkkjiaaGreatDoorMaa
import Derived.Test.YtcgkkppidkkjiaaGreatDoorMah
import Derived.Test.YtcgkkppidkkjiaaGreatDoorMab
import Derived.Test.YtcgkkppidkkjiaaGreatDoorMan
import Derived.Test.YtcgkkppidkkjiaaGreatDoorMbc
import Derived.Test.YtcgkkppidkkjiaaGreatDoorMaj
import Derived.Test.YtcgkkppidkkjiaaGreatDoorMaf
import Derived.Test.YtcgkkppidkkjiaaGreatDoorMav
import Derived.Test.YtcgkkppidkkjiaaGreatDoorMbd
import Derived.Test.YtcgkkppidkkjiaaGreatDoorMao
import Derived.Test.YtcgkkppidkkjiaaGreatDoorMar
import Derived.Below
import Derived.BigQuiet
import Derived.Carry
import Derived.Deep.AppendLies
import Derived.Deep.CutRange
import Derived.Deep.Draws
import Derived.Deep.QuietTactic
import Derived.Deep.RegionHeldLaw
import Derived.Deep.RegionLaw
import Derived.DeepKeys4
import Derived.IntWalk
import Derived.Laws.BitsLemmas
import Derived.Laws.MakeOwn
import Derived.Laws.OwnMore
import Derived.Laws.Rows
import Derived.Lib.Hide
import Derived.Lib.SliceRun
import Derived.LoopN
import Derived.Maps.OwnOps
import Derived.OwnWalk
import Derived.Shelf.Abstract
import Derived.Sort.Statements
import Derived.StillTail
import Derived.StillTailTactics
import Derived.Test.YtcgkkppidkkjiaaGreatDoorRows
import Derived.WalkKit
namespace Go.Proofs.YtcgkkppidkkjiaaGreatDoor
open Go.RowKit
theorem below_drew2 {w w' : World} (h : Below w.drew.heap.size w.drew w') : Below w.heap.size w w' := ⟨h.os, h.tape, h.output, h.size, h.block⟩
/-- the last stores of Reduce -/
theorem red_fin {w wz : World} {sn n base cI cN : Nat} {f : Nat → P2} {AI AN : Option Addr} {out : List (Int × List Int)} {a b c : Value} (_ : Blk wz (w.heap.size + 1) 32 #[a, b, c]) (q : QReads wz wz.heap.size AI n f) (hq : ∀ ad, AI = some ad → w.heap.size + 1 < ad.block) (hn : NL wz base AN cN out) (hb : w.heap.size + 1 < base) (B : Below w.heap.size w wz) :
    TS (((wz.setCell ⟨w.heap.size + 1, 0, none⟩ (.int .i64 (sn : Int))).setCell ⟨w.heap.size + 1, 1, none⟩ (.slice AI n cI)).setCell ⟨w.heap.size + 1, 2, none⟩ (.slice AN out.length cN)) AI AN (trOR sn n f out) ∧
    Below w.heap.size w (((wz.setCell ⟨w.heap.size + 1, 0, none⟩ (.int .i64 (sn : Int))).setCell ⟨w.heap.size + 1, 1, none⟩ (.slice AI n cI)).setCell ⟨w.heap.size + 1, 2, none⟩ (.slice AN out.length cN)) := by
  have FZ := set3_fr wz (w.heap.size + 1) (.int .i64 (sn : Int)) (.slice AI n cI) (.slice AN out.length cN)
  exact ⟨⟨FZ.qreads q (fun _ ad e hk => by have := hq ad e; omega), (hn.keep FZ (fun k hk => by omega)).nr⟩, B.trans (FZ.below (fun k hk => by omega) B.size)⟩
/-- an own row as a list of positions, kept -/
theorem own_q {w0 w w' : World} {base n c : Nat} {A : Option Addr} {f : Nat → P2} {G G' : Nat → Prop} (h : w.ownsRow base 58 2 (.slice A n c) n (cells2 f n)) (hf : Fr G w G' w') (hG : ∀ k, G k → k < base ∨ w.heap.size ≤ k) (hb : w0.heap.size + 1 < base) : QReads w' w'.heap.size A n f ∧ ∀ ad, A = some ad → w0.heap.size + 1 < ad.block := by
  refine ⟨hf.qreads (QReads.of_own h) (fun hn ad e hg => ?_), fun ad e => ?_⟩
  · subst e
    have := h.lt ad.block rfl
    rcases hG _ hg with h' | h' <;> omega
  · subst e
    have := (h.lt ad.block rfl).1
    omega
set_option maxRecDepth 100000 in
set_option maxHeartbeats 16000000 in
theorem reduce_any {T : Tr} {sn : Nat} {AH AN : Option Addr} {cH cN : Nat} {w : World} {nums : List Int} {L : List Ndv} {r : Int} {S' : Wk Unit} (hst : T.st = (sn : Int)) (h : TS w AH AN T) (hT : Rtt T) (hp : plantF (sn : Int) T.lv T.nx T.m [] = some (nums, L)) (hn : I32 (ig nums (T.m - 1)))
    (hv : visitF sn (elN (sn : Int) L) T.n (ig nums (T.m - 1)) ⟨(), [], []⟩ = some (r, S')) :
    Calls Tryz.prog 34 #[.agg #[.int .i64 (sn : Int), .slice AH T.n cH, .slice AN T.m cN]] w fun e w' => ∃ AI cI AN' cN', e = .returned (.agg #[.int .i64 (sn : Int), .slice AI T.n cI, .slice AN' S'.out.length cN']) ∧ TS w' AI AN' (trOR sn T.n T.f S'.out) ∧ Below w.heap.size w w' := by
  have s1 := hT.s1
  have s2 := hT.s2
  have n25 := hT.hd.1.2
  have HTS := Lib.hid h
  have RI := Lib.hid (fun w' (hb : Below w.heap.size w w') => tright_yes AH cH AN cN T w' (h.later hb) hT)
  rw [hst] at RI s1 s2
  have NF := Lib.hid (fun w' => newForest_any (sn := sn) (w := w') (by omega) (by omega))
  have CL := Lib.hid (fun w' (hb : Below w.heap.size w w') => clone_any AH T.n cH T.f w' (h.1.later hb) (by omega))
  have HN := Lib.hid hn
  have HTT := Lib.hid hT
  have HST := Lib.hid hst
  have HP := Lib.hid hp
  have HV := Lib.hid hv
  clear h hp hn hv hT hst
  go_enter Tryz.func34, Tryz.ntmps34
  have Z1 := Lib.hid ((Below.refl w.heap.size w).alloc (Nat.le_refl _) (.cells #[.int .i64 (sn : Int), .slice AH T.n cH, .slice AN T.m cN] 32))
  have Z2 := Lib.hid (Z1.out.alloc Z1.out.size (.cells #[.int .i64 0, .slice none 0 0, .slice none 0 0] 32))
  have KT := Lib.hid ((Blk.new w 32 #[.int .i64 (sn : Int), .slice AH T.n cH, .slice AN T.m cN]).alloc (.cells #[.int .i64 0, .slice none 0 0, .slice none 0 0] 32))
  have KR := Blk.new (w.alloc (.cells #[.int .i64 (sn : Int), .slice AH T.n cH, .slice AN T.m cN] 32)) 32 #[.int .i64 0, .slice none 0 0, .slice none 0 0]
  simp only [World.size_alloc] at KR
  have KR := Lib.hid KR
  obtain ⟨t0, t1, t2, t3⟩ := KT.out.three
  go_wp2_with (first
    | (go_at_call 32; (with_reducible refine (RI.out _ Z2.out).mono ?_); rintro e w1 ⟨rfl, hb⟩; have B1 := Lib.hid (Z2.out.trans (hb.mono Z2.out.size)); have KT1 := Lib.hid (KT.out.below hb KT.out.lt); have KR1 := Lib.hid (KR.out.below hb KR.out.lt); clear hb; obtain ⟨u0, u1, u2, u3⟩ := KT1.out.three)
    | (go_at_call 60; (with_reducible refine (NF.out _).mono ?_); rintro e w3 ⟨fb, G, rfl, hf, hg, hb⟩; have F3 := Lib.hid hf; have G3 := Lib.hid hg; have L3 := Lib.hid hb; have BTw3 := Lib.hid ((B1.out.trans (hb.mono B1.out.size)).drew); have KTw3 := Lib.hid (KT1.out.below hb KT1.out.lt).drew; have KRw3 := Lib.hid (KR1.out.below hb KR1.out.lt).drew; clear hb hf hg))
  have hr1 := KR1.out.lt
  have S0 := tri KTw3.out
  have SZw3 : w.heap.size + 1 + 1 ≤ w3.drew.heap.size := KRw3.out.lt
  have hGb : ∀ k, G k → w.heap.size + 1 + 1 ≤ k := fun k hk => by have := G3.out k hk; omega
  have HGB := Lib.hid hGb
  have GL := Lib.hid F3.out.st2.2.2.2.2.2.2.1
  have PL := Lib.hid (fun w' (hb : Below w.heap.size w w') (hz : w.heap.size + 1 + 1 ≤ w'.heap.size) (hf : Fo w' fb G (sn : Int) []) => by
    have := plant_any (w := w') (AH := AH) (nh := T.n) (ch := cH) (cN := cN) (B := w.heap.size) (HST.out ▸ hf) HTT.out (HTS.out.2.below hb) (by omega) (fun k hk => by have := HGB.out k hk; omega) (HST.out.symm ▸ HP.out)
    rw [HST.out] at this
    exact this.mono (R' := fun e w'' => ∃ G', e = .returned (.int .i32 (ig nums (T.m - 1))) ∧ Fo w'' fb G' (sn : Int) L ∧ Fr G w' G' w'' ∧ Below (w.heap.size + 1 + 1) w' w'' ∧ ∀ k, G' k → w.heap.size + 1 + 1 ≤ k) fun e w'' ⟨G', h1, h2, h3⟩ => ⟨G', h1, h2, h3, h3.below HGB.out hz, fun k hk => by
      rcases h3.new k hk with q | q
      · exact HGB.out k q
      · omega⟩)
  have NO := Lib.hid (fun w' G4 (hf : Fo w' fb G4 (sn : Int) L) (hg : ∀ k, G4 k → w.heap.size + 1 + 1 ≤ k) (hz : w.heap.size + 1 + 1 ≤ w'.heap.size) => (nodesOf_anyR (lm := 25) hf n25 (by omega) HN.out HV.out).mono (R' := fun e w'' => ∃ A c G', e = .returned (.slice A S'.out.length c) ∧ NL w'' w'.heap.size A c S'.out ∧ Fr G4 w' G' w'' ∧ Below (w.heap.size + 1 + 1) w' w'') fun e w'' ⟨A, c, G', h1, h2, h3⟩ => ⟨A, c, G', h1, h2, h3, h3.below hg hz⟩)
  have hk0 : w.heap.size < w.heap.size + 1 + 1 := by omega
  have hk1 : w.heap.size + 1 < w.heap.size + 1 + 1 := by omega
  have hk2 : w.heap.size ≤ w.heap.size + 1 + 1 := by omega
  have hkne : w.heap.size ≠ w.heap.size + 1 := by omega
  have S3 : w3.drew.cell? ⟨w.heap.size, 0, none⟩ = some (.int .i64 (sn : Int)) ∧ w3.drew.cell? ⟨w.heap.size, 1, none⟩ = some (.slice AH T.n cH) ∧ w3.drew.cell? ⟨w.heap.size, 2, none⟩ = some (.slice AN T.m cN) := S0
  clear t0 t1 t2 t3 u0 u1 u2 u3 S0 hGb
  go_region_held_law (fun w' => w'.cell? ⟨w.heap.size, 0, none⟩ = some (.int .i64 (sn : Int)) ∧ w'.cell? ⟨w.heap.size, 1, none⟩ = some (.slice AH T.n cH) ∧ w'.cell? ⟨w.heap.size, 2, none⟩ = some (.slice AN T.m cN)) (first | assumption | go_keep)
    (first
    | (go_at_call 35; (with_reducible refine (CL.out w3.drew BTw3.out).mono ?_); rintro e wa ⟨AI, cI, rfl, ho, hb⟩; have OCwa := Lib.hid ho; have BCwa := Lib.hid hb; have KTwa := Lib.hid (below_blk (hb.mono SZw3) KTw3.out hk0); have KRwa := Lib.hid (below_blk (hb.mono SZw3) KRw3.out hk1); have BTwa := Lib.hid (BTw3.out.trans ((hb.mono SZw3).mono hk2)); have SZwa := Nat.le_trans SZw3 ((hb.mono SZw3)).size; have Swa := tri KTwa.out; clear hb ho)
    | (go_at_call 62; (with_reducible refine (PL.out wa BTwa.out SZwa (F3.out.below (below_drew2 BCwa.out))).mono ?_); rintro e wb ⟨G4, rfl, hf4, hr4, hb4, hg4⟩; have Fwb := Lib.hid hf4; have Rwb := Lib.hid hr4; have GGwb := Lib.hid hg4; have KTwb := Lib.hid (below_blk hb4 KTwa.out hk0); have KRwb := Lib.hid (below_blk hb4 KRwa.out hk1); have BTwb := Lib.hid (BTwa.out.trans (hb4.mono hk2)); have SZwb := Nat.le_trans SZwa (hb4).size; have Swb := tri KTwb.out; clear hf4 hr4 hb4 hg4)
    | (go_at_call 61; (with_reducible refine (NO.out wb _ (Fwb.out) (GGwb.out) SZwb).mono ?_); rintro e wc ⟨AN', cN', G5, rfl, hn5, hr5, hb5⟩; have Nwc := Lib.hid hn5; have Rwc := Lib.hid hr5; have KTwc := Lib.hid (below_blk hb5 KTwb.out hk0); have KRwc := Lib.hid (below_blk hb5 KRwb.out hk1); have BTwc := Lib.hid (BTwb.out.trans (hb5.mono hk2)); have SZwc := Nat.le_trans SZwb (hb5).size; have Swc := tri KTwc.out; have S8 := tri (((KTwc.out.far (p := ⟨w.heap.size + 1, 0, none⟩) hkne (.int .i64 (sn : Int))).far (p := ⟨w.heap.size + 1, 1, none⟩) hkne (.slice AI T.n cI)).far (p := ⟨w.heap.size + 1, 2, none⟩) hkne (.slice AN' S'.out.length cN')); obtain ⟨z0, z1, z2, z3, z4, z5, z6⟩ := KRwc.out.three6; clear hn5 hr5 hb5))
  all_goals
    go_wp2
    have q9 := own_q (w0 := w) OCwa.out (Rwb.out.trans Rwc.out) (fun k hk => .inl (GL.out k hk)) (by omega)
    have n9 := Nwc.out
    obtain ⟨hts, hbz⟩ := red_fin (sn := sn) (f := T.f) (n := T.n) (cI := cI) (KRwc.out) q9.1 q9.2 n9 (by omega) BTwc.out
    have KZ := ((KRwc.out.set_ 0 (.int .i64 (sn : Int))).set_ 1 (.slice AI T.n cI)).set_ 2 (.slice AN' S'.out.length cN')
    have KZ : Blk (((wc.setCell ⟨w.heap.size + 1, 0, none⟩ (.int .i64 (sn : Int))).setCell ⟨w.heap.size + 1, 1, none⟩ (.slice AI T.n cI)).setCell ⟨w.heap.size + 1, 2, none⟩ (.slice AN' S'.out.length cN')) (w.heap.size + 1) 32 #[.int .i64 (sn : Int), .slice AI T.n cI, .slice AN' S'.out.length cN'] := by simpa using KZ
    obtain ⟨y0, y1, y2, y3⟩ := KZ.three
    exact bodyPost_ret (v := .agg #[.int .i64 (sn : Int), .slice AI T.n cI, .slice AN' S'.out.length cN']) (by simp [results, Tryz.results34, go_sem, y0, y1, y2]) rfl ⟨AI, cI, AN', cN', rfl, hts, hbz⟩
end Go.Proofs.YtcgkkppidkkjiaaGreatDoor
