/- The walk of Reduce. -/
/- The walk of rowsOf at the reduced trees of the examples; Reduce at them. -/
import Derived.Test.YtcgkkppidkkjiaaGreatDoorMad
import Derived.Test.YtcgkkppidkkjiaaGreatDoorMaa
import Derived.Test.YtcgkkppidkkjiaaGreatDoorMaf
import Derived.Test.YtcgkkppidkkjiaaGreatDoorMab
import Derived.Test.YtcgkkppidkkjiaaGreatDoorMae
import Derived.Test.YtcgkkppidkkjiaaGreatDoorMaj
import Derived.Test.YtcgkkppidkkjiaaGreatDoorMah
import Derived.Test.YtcgkkppidkkjiaaGreatDoorMbo
import Derived.Test.YtcgkkppidkkjiaaGreatDoorMbs
import Derived.Test.YtcgkkppidkkjiaaGreatDoorMbn
import Derived.Test.YtcgkkppidkkjiaaGreatDoorMbt
import Derived.Test.YtcgkkppidkkjiaaGreatDoorMbb
import Derived.Below
import Derived.BigQuiet
import Derived.Carry
import Derived.Deep.AppendLies
import Derived.Deep.CutRange
import Derived.Deep.Draws
import Derived.Deep.QuietTactic
import Derived.Deep.RegionHeldLaw
import Derived.Deep.RegionLaw
import Derived.DeepKeys4
import Derived.IntWalk
import Derived.Laws.BitsLemmas
import Derived.Laws.MakeOwn
import Derived.Laws.OwnMore
import Derived.Laws.Rows
import Derived.Lib.Hide
import Derived.Lib.SliceRun
import Derived.LoopN
import Derived.Maps.OwnOps
import Derived.OwnWalk
import Derived.Shelf.Abstract
import Derived.Sort.Statements
import Derived.StillTail
import Derived.StillTailTactics
import Derived.Test.YtcgkkppidkkjiaaGreatDoorRows
import Derived.WalkKit
import Derived.Test.YtcgkkppidkkjiaaGreatDoorMbh
import Derived.Test.YtcgkkppidkkjiaaGreatDoorMan
namespace Go.Proofs.YtcgkkppidkkjiaaGreatDoor
open Go.RowKit
theorem below_drew2 {w w' : World} (h : Below w.drew.heap.size w.drew w') : Below w.heap.size w w' := ⟨h.os, h.tape, h.output, h.size, h.block⟩
/-- the last stores of Reduce -/
theorem red_fin {w wz : World} {sn n base cI cN : Nat} {f : Nat → P2} {AI AN : Option Addr} {out : List (Int × List Int)} {a b c : Value} (_ : Blk wz (w.heap.size + 1) 32 #[a, b, c]) (q : QReads wz wz.heap.size AI n f) (hq : ∀ ad, AI = some ad → w.heap.size + 1 < ad.block) (hn : NL wz base AN cN out) (hb : w.heap.size + 1 < base) (B : Below w.heap.size w wz) :
    TS (((wz.setCell ⟨w.heap.size + 1, 0, none⟩ (.int .i64 (sn : Int))).setCell ⟨w.heap.size + 1, 1, none⟩ (.slice AI n cI)).setCell ⟨w.heap.size + 1, 2, none⟩ (.slice AN out.length cN)) AI AN (trOR sn n f out) ∧
    Below w.heap.size w (((wz.setCell ⟨w.heap.size + 1, 0, none⟩ (.int .i64 (sn : Int))).setCell ⟨w.heap.size + 1, 1, none⟩ (.slice AI n cI)).setCell ⟨w.heap.size + 1, 2, none⟩ (.slice AN out.length cN)) := by
  have FZ := set3_fr wz (w.heap.size + 1) (.int .i64 (sn : Int)) (.slice AI n cI) (.slice AN out.length cN)
  exact ⟨⟨FZ.qreads q (fun _ ad e hk => by have := hq ad e; omega), (hn.keep FZ (fun k hk => by omega)).nr⟩, B.trans (FZ.below (fun k hk => by omega) B.size)⟩
/-- an own row as a list of positions, kept -/
theorem own_q {w0 w w' : World} {base n c : Nat} {A : Option Addr} {f : Nat → P2} {G G' : Nat → Prop} (h : w.ownsRow base 58 2 (.slice A n c) n (cells2 f n)) (hf : Fr G w G' w') (hG : ∀ k, G k → k < base ∨ w.heap.size ≤ k) (hb : w0.heap.size + 1 < base) : QReads w' w'.heap.size A n f ∧ ∀ ad, A = some ad → w0.heap.size + 1 < ad.block := by
  refine ⟨hf.qreads (QReads.of_own h) (fun hn ad e hg => ?_), fun ad e => ?_⟩
  · subst e
    have := h.lt ad.block rfl
    rcases hG _ hg with h' | h' <;> omega
  · subst e
    have := (h.lt ad.block rfl).1
    omega
set_option maxRecDepth 100000 in
set_option maxHeartbeats 16000000 in
theorem reduce_any {T : Tr} {sn : Nat} {AH AN : Option Addr} {cH cN : Nat} {w : World} {nums : List Int} {L : List Ndv} {r : Int} {S' : Wk Unit} (hst : T.st = (sn : Int)) (h : TS w AH AN T) (hT : Rtt T) (hp : plantF (sn : Int) T.lv T.nx T.m [] = some (nums, L)) (hn : I32 (ig nums (T.m - 1)))
    (hv : visitF sn (elN (sn : Int) L) T.n (ig nums (T.m - 1)) ⟨(), [], []⟩ = some (r, S')) :
    Calls Tryz.prog 34 #[.agg #[.int .i64 (sn : Int), .slice AH T.n cH, .slice AN T.m cN]] w fun e w' => ∃ AI cI AN' cN', e = .returned (.agg #[.int .i64 (sn : Int), .slice AI T.n cI, .slice AN' S'.out.length cN']) ∧ TS w' AI AN' (trOR sn T.n T.f S'.out) ∧ Below w.heap.size w w' := by
  have s1 := hT.s1
  have s2 := hT.s2
  have n25 := hT.hd.1.2
  have HTS := Lib.hid h
  have RI := Lib.hid (fun w' (hb : Below w.heap.size w w') => tright_yes AH cH AN cN T w' (h.later hb) hT)
  rw [hst] at RI s1 s2
  have NF := Lib.hid (fun w' => newForest_any (sn := sn) (w := w') (by omega) (by omega))
  have CL := Lib.hid (fun w' (hb : Below w.heap.size w w') => clone_any AH T.n cH T.f w' (h.1.later hb) (by omega))
  have HN := Lib.hid hn
  have HTT := Lib.hid hT
  have HST := Lib.hid hst
  have HP := Lib.hid hp
  have HV := Lib.hid hv
  clear h hp hn hv hT hst
  go_enter Tryz.func34, Tryz.ntmps34
  have Z1 := Lib.hid ((Below.refl w.heap.size w).alloc (Nat.le_refl _) (.cells #[.int .i64 (sn : Int), .slice AH T.n cH, .slice AN T.m cN] 32))
  have Z2 := Lib.hid (Z1.out.alloc Z1.out.size (.cells #[.int .i64 0, .slice none 0 0, .slice none 0 0] 32))
  have KT := Lib.hid ((Blk.new w 32 #[.int .i64 (sn : Int), .slice AH T.n cH, .slice AN T.m cN]).alloc (.cells #[.int .i64 0, .slice none 0 0, .slice none 0 0] 32))
  have KR := Blk.new (w.alloc (.cells #[.int .i64 (sn : Int), .slice AH T.n cH, .slice AN T.m cN] 32)) 32 #[.int .i64 0, .slice none 0 0, .slice none 0 0]
  simp only [World.size_alloc] at KR
  have KR := Lib.hid KR
  obtain ⟨t0, t1, t2, t3⟩ := KT.out.three
  go_wp2_with (first
    | (go_at_call 32; (with_reducible refine (RI.out _ Z2.out).mono ?_); rintro e w1 ⟨rfl, hb⟩; have B1 := Lib.hid (Z2.out.trans (hb.mono Z2.out.size)); have KT1 := Lib.hid (KT.out.below hb KT.out.lt); have KR1 := Lib.hid (KR.out.below hb KR.out.lt); clear hb; obtain ⟨u0, u1, u2, u3⟩ := KT1.out.three)
    | (go_at_call 60; (with_reducible refine (NF.out _).mono ?_); rintro e w3 ⟨fb, G, rfl, hf, hg, hb⟩; have F3 := Lib.hid hf; have G3 := Lib.hid hg; have L3 := Lib.hid hb; have BTw3 := Lib.hid ((B1.out.trans (hb.mono B1.out.size)).drew); have KTw3 := Lib.hid (KT1.out.below hb KT1.out.lt).drew; have KRw3 := Lib.hid (KR1.out.below hb KR1.out.lt).drew; clear hb hf hg))
  have hr1 := KR1.out.lt
  have S0 := tri KTw3.out
  have SZw3 : w.heap.size + 1 + 1 ≤ w3.drew.heap.size := KRw3.out.lt
  have hGb : ∀ k, G k → w.heap.size + 1 + 1 ≤ k := fun k hk => by have := G3.out k hk; omega
  have HGB := Lib.hid hGb
  have GL := Lib.hid F3.out.st2.2.2.2.2.2.2.1
  have PL := Lib.hid (fun w' (hb : Below w.heap.size w w') (hz : w.heap.size + 1 + 1 ≤ w'.heap.size) (hf : Fo w' fb G (sn : Int) []) => by
    have := plant_any (w := w') (AH := AH) (nh := T.n) (ch := cH) (cN := cN) (B := w.heap.size) (HST.out ▸ hf) HTT.out (HTS.out.2.below hb) (by omega) (fun k hk => by have := HGB.out k hk; omega) (HST.out.symm ▸ HP.out)
    rw [HST.out] at this
    exact this.mono (R' := fun e w'' => ∃ G', e = .returned (.int .i32 (ig nums (T.m - 1))) ∧ Fo w'' fb G' (sn : Int) L ∧ Fr G w' G' w'' ∧ Below (w.heap.size + 1 + 1) w' w'' ∧ ∀ k, G' k → w.heap.size + 1 + 1 ≤ k) fun e w'' ⟨G', h1, h2, h3⟩ => ⟨G', h1, h2, h3, h3.below HGB.out hz, fun k hk => by
      rcases h3.new k hk with q | q
      · exact HGB.out k q
      · omega⟩)
  have NO := Lib.hid (fun w' G4 (hf : Fo w' fb G4 (sn : Int) L) (hg : ∀ k, G4 k → w.heap.size + 1 + 1 ≤ k) (hz : w.heap.size + 1 + 1 ≤ w'.heap.size) => (nodesOf_anyR (lm := 25) hf n25 (by omega) HN.out HV.out).mono (R' := fun e w'' => ∃ A c G', e = .returned (.slice A S'.out.length c) ∧ NL w'' w'.heap.size A c S'.out ∧ Fr G4 w' G' w'' ∧ Below (w.heap.size + 1 + 1) w' w'') fun e w'' ⟨A, c, G', h1, h2, h3⟩ => ⟨A, c, G', h1, h2, h3, h3.below hg hz⟩)
  have hk0 : w.heap.size < w.heap.size + 1 + 1 := by omega
  have hk1 : w.heap.size + 1 < w.heap.size + 1 + 1 := by omega
  have hk2 : w.heap.size ≤ w.heap.size + 1 + 1 := by omega
  have hkne : w.heap.size ≠ w.heap.size + 1 := by omega
  have S3 : w3.drew.cell? ⟨w.heap.size, 0, none⟩ = some (.int .i64 (sn : Int)) ∧ w3.drew.cell? ⟨w.heap.size, 1, none⟩ = some (.slice AH T.n cH) ∧ w3.drew.cell? ⟨w.heap.size, 2, none⟩ = some (.slice AN T.m cN) := S0
  clear t0 t1 t2 t3 u0 u1 u2 u3 S0 hGb
  go_region_held_law (fun w' => w'.cell? ⟨w.heap.size, 0, none⟩ = some (.int .i64 (sn : Int)) ∧ w'.cell? ⟨w.heap.size, 1, none⟩ = some (.slice AH T.n cH) ∧ w'.cell? ⟨w.heap.size, 2, none⟩ = some (.slice AN T.m cN)) (first | assumption | go_keep)
    (first
    | (go_at_call 35; (with_reducible refine (CL.out w3.drew BTw3.out).mono ?_); rintro e wa ⟨AI, cI, rfl, ho, hb⟩; have OCwa := Lib.hid ho; have BCwa := Lib.hid hb; have KTwa := Lib.hid (below_blk (hb.mono SZw3) KTw3.out hk0); have KRwa := Lib.hid (below_blk (hb.mono SZw3) KRw3.out hk1); have BTwa := Lib.hid (BTw3.out.trans ((hb.mono SZw3).mono hk2)); have SZwa := Nat.le_trans SZw3 ((hb.mono SZw3)).size; have Swa := tri KTwa.out; clear hb ho)
    | (go_at_call 62; (with_reducible refine (PL.out wa BTwa.out SZwa (F3.out.below (below_drew2 BCwa.out))).mono ?_); rintro e wb ⟨G4, rfl, hf4, hr4, hb4, hg4⟩; have Fwb := Lib.hid hf4; have Rwb := Lib.hid hr4; have GGwb := Lib.hid hg4; have KTwb := Lib.hid (below_blk hb4 KTwa.out hk0); have KRwb := Lib.hid (below_blk hb4 KRwa.out hk1); have BTwb := Lib.hid (BTwa.out.trans (hb4.mono hk2)); have SZwb := Nat.le_trans SZwa (hb4).size; have Swb := tri KTwb.out; clear hf4 hr4 hb4 hg4)
    | (go_at_call 61; (with_reducible refine (NO.out wb _ (Fwb.out) (GGwb.out) SZwb).mono ?_); rintro e wc ⟨AN', cN', G5, rfl, hn5, hr5, hb5⟩; have Nwc := Lib.hid hn5; have Rwc := Lib.hid hr5; have KTwc := Lib.hid (below_blk hb5 KTwb.out hk0); have KRwc := Lib.hid (below_blk hb5 KRwb.out hk1); have BTwc := Lib.hid (BTwb.out.trans (hb5.mono hk2)); have SZwc := Nat.le_trans SZwb (hb5).size; have Swc := tri KTwc.out; have S8 := tri (((KTwc.out.far (p := ⟨w.heap.size + 1, 0, none⟩) hkne (.int .i64 (sn : Int))).far (p := ⟨w.heap.size + 1, 1, none⟩) hkne (.slice AI T.n cI)).far (p := ⟨w.heap.size + 1, 2, none⟩) hkne (.slice AN' S'.out.length cN')); obtain ⟨z0, z1, z2, z3, z4, z5, z6⟩ := KRwc.out.three6; clear hn5 hr5 hb5))
  all_goals
    go_wp2
    have q9 := own_q (w0 := w) OCwa.out (Rwb.out.trans Rwc.out) (fun k hk => .inl (GL.out k hk)) (by omega)
    have n9 := Nwc.out
    obtain ⟨hts, hbz⟩ := red_fin (sn := sn) (f := T.f) (n := T.n) (cI := cI) (KRwc.out) q9.1 q9.2 n9 (by omega) BTwc.out
    have KZ := ((KRwc.out.set_ 0 (.int .i64 (sn : Int))).set_ 1 (.slice AI T.n cI)).set_ 2 (.slice AN' S'.out.length cN')
    have KZ : Blk (((wc.setCell ⟨w.heap.size + 1, 0, none⟩ (.int .i64 (sn : Int))).setCell ⟨w.heap.size + 1, 1, none⟩ (.slice AI T.n cI)).setCell ⟨w.heap.size + 1, 2, none⟩ (.slice AN' S'.out.length cN')) (w.heap.size + 1) 32 #[.int .i64 (sn : Int), .slice AI T.n cI, .slice AN' S'.out.length cN'] := by simpa using KZ
    obtain ⟨y0, y1, y2, y3⟩ := KZ.three
    exact bodyPost_ret (v := .agg #[.int .i64 (sn : Int), .slice AI T.n cI, .slice AN' S'.out.length cN']) (by simp [results, Tryz.results34, go_sem, y0, y1, y2]) rfl ⟨AI, cI, AN', cN', rfl, hts, hbz⟩
end Go.Proofs.YtcgkkppidkkjiaaGreatDoor
namespace Go.Proofs.YtcgkkppidkkjiaaGreatDoor
open Go.RowKit
attribute [local go_sem] run_store_fn

/-- the nodes of the reduced trees -/
def o1 : List (Int × List Int) := [(1, [0, 0]), (1, [1, 1]), (2, [0, 1]), (3, [2, 2])]
def o2 : List (Int × List Int) := [(1, [0, 0]), (2, [0, 0]), (3, [1, 1])]
def T1 : Tr := trOR 2 3 lnf o1
def T2 : Tr := trOR 2 3 lnf o2
theorem px_lnf : px lnf 3 (0, 0) = 1 := by decide +kernel
theorem red1 (AH AN : Option Addr) (cH cN : Nat) (w : World) (h : TS w AH AN (TRd lnf)) : Calls Tryz.prog 34 #[.agg #[.int .i64 2, .slice AH 3 cH, .slice AN 4 cN]] w fun e w' => ∃ AI cI AN' cN', e = .returned (.agg #[.int .i64 2, .slice AI 3 cI, .slice AN' 4 cN']) ∧ TS w' AI AN' T1 ∧ Below w.heap.size w w' :=
  reduce_any (sn := 2) (T := TRd lnf) (nums := [2, 3, 4, 5]) (L := [⟨1, [0, 0, 0, 0, 0, 0, 0, 0]⟩, ⟨1, [1, 1, 0, 0, 0, 0, 0, 0]⟩, ⟨2, [2, 3, 0, 0, 0, 0, 0, 0]⟩, ⟨3, [4, 4, 0, 0, 0, 0, 0, 0]⟩]) (r := 3) (S' := ⟨(), [(5, 3), (4, 2), (3, 1), (2, 0)], o1⟩) rfl h rtt_read (by kernel_rfl) (by decide) (by kernel_rfl)
theorem red2 (AH AN : Option Addr) (cH cN : Nat) (w : World) (h : TS w AH AN (TCn 2 3 lnf 0)) : Calls Tryz.prog 34 #[.agg #[.int .i64 2, .slice AH 3 cH, .slice AN 3 cN]] w fun e w' => ∃ AI cI AN' cN', e = .returned (.agg #[.int .i64 2, .slice AI 3 cI, .slice AN' 3 cN']) ∧ TS w' AI AN' T2 ∧ Below w.heap.size w w' :=
  reduce_any (sn := 2) (T := TCn 2 3 lnf 0) (nums := [2, 3, 4]) (L := [⟨1, [0, 0, 0, 0, 0, 0, 0, 0]⟩, ⟨2, [2, 2, 0, 0, 0, 0, 0, 0]⟩, ⟨3, [3, 3, 0, 0, 0, 0, 0, 0]⟩]) (r := 2) (S' := ⟨(), [(4, 2), (3, 1), (2, 0)], o2⟩) rfl h rtt_con (by kernel_rfl) (by decide) (by kernel_rfl)
section
variable {b0 b1 b3 b4 b5 Bi : Nat} {AH AN : Option Addr} {cH cN : Nat} {lv : Nat → Int}
theorem same_kept {m : Nat} {nx : Nat → List Int} (k : Nat) (hk : k < 3) (ins : List Int) (i : Nat) (hi : i < m) (a : Int) (hn : nx i = [a, a]) (HC : WC b0 b1 b3 b4 b5 Bi AH AN cH m cN lv nx (k + 1) (ins ++ [-1 - (k : Int)]) a (KeptR Bi (k + 1) (ins ++ [-1 - (k : Int)]))) : WC b0 b1 b3 b4 b5 Bi AH AN cH m cN lv nx k ins (i : Int) (KeptR Bi k ins) :=
  wk_same k hk ins i hi a hn HC (fun w A c w1 A1 c1 w' _ ho hf hp h1 hD => kept_next ho hf hp h1 hD)
theorem same_new {m : Nat} {nx : Nat → List Int} {l : List Int} (k : Nat) (hk : k < 3) (ins : List Int) (i : Nat) (hi : i < m) (a : Int) (hn : nx i = [a, a]) (HC : WC b0 b1 b3 b4 b5 Bi AH AN cH m cN lv nx (k + 1) (ins ++ [-1 - (k : Int)]) a (NewR b0 b3 Bi l)) : WC b0 b1 b3 b4 b5 Bi AH AN cH m cN lv nx k ins (i : Int) (NewR b0 b3 Bi l) :=
  wk_same k hk ins i hi a hn HC (fun w A c w1 A1 c1 w' hw ho hf hp h1 hD => ⟨hD.1, (hf.below (B := b0) (fun b hb => by have := ob_ge ho b hb; have := hw.lo; omega) (by have := hw.hi; have := hw.lo; omega)).trans (hD.2)⟩)
theorem way1 : WC b0 b1 b3 b4 b5 Bi AH AN cH 4 cN lv T1.nx 0 [] 3 (KeptR Bi 0 []) :=
  same_kept 0 (by decide) [] 3 (by decide) 2 (by decide)
    (wk_both 1 (by decide) [-1] 2 (by decide) 0 1 (by decide) (by decide)
      (same_kept 2 (by decide) [-1, 0] 0 (by decide) 0 (by decide) (wk_leaf [-1, 0, -3] 0 (by decide)))
      (same_kept 2 (by decide) [-1, 1] 1 (by decide) 1 (by decide) (wk_leaf [-1, 1, -3] 1 (by decide))))
theorem way2 : WC b0 b1 b3 b4 b5 Bi AH AN cH 3 cN lv T2.nx 0 [] 2 (NewR b0 b3 Bi [-1, -2, -3]) :=
  same_new 0 (by decide) [] 2 (by decide) 1 (by decide)
    (same_new 1 (by decide) [-1] 1 (by decide) 0 (by decide)
      (same_new 2 (by decide) [-1, -2] 0 (by decide) 0 (by decide) (wk_new [-1, -2, -3] (by decide))))
end
set_option maxRecDepth 100000 in
set_option maxHeartbeats 4000000 in
theorem rows1 (AH : Option Addr) (cH : Nat) (AN : Option Addr) (cN : Nat) (w : World) (h : TS w AH AN T1) :
    Calls Tryz.prog 33 #[.agg #[.int .i64 2, .slice AH 3 cH, .slice AN 4 cN]] w fun e w' => e = .returned (.slice none 0 0) ∧ Below w.heap.size w w' := by
  have IX := Lib.hid (show ∀ W, Below w.heap.size w W → Calls Tryz.prog 46 #[.slice AH 3 cH, .agg #[.int .i64 0, .int .i64 0]] W fun e W' => e = .returned (.int .i64 1) ∧ Below W.heap.size W W' from fun W hb => (pindex_any AH 3 cH lnf 0 0 W (h.1.later hb) (by omega)).mono fun e W' ⟨he, hx⟩ => ⟨by rw [he, px_lnf], hx⟩)
  have NN := Lib.hid h.2
  clear h
  have K0 := (Blk.new w 32 #[.int .i64 2, .slice AH 3 cH, .slice AN 4 cN]).alloc (.cells #[.slice none 0 0] 24)
  have K1 := Blk.new (w.alloc (.cells #[.int .i64 2, .slice AH 3 cH, .slice AN 4 cN] 32)) 24 #[.slice none 0 0]
  rw [World.size_alloc] at K1
  have B0 := ((Below.refl w.heap.size w).alloc (Nat.le_refl _) (.cells #[.int .i64 2, .slice AH 3 cH, .slice AN 4 cN] 32)).alloc (by simp) (.cells #[.slice none 0 0] 24)
  go_enter Tryz.func33, Tryz.ntmps33
  go_upto_region 2 with (fail)
  generalize (w.alloc (.cells #[.int .i64 2, .slice AH 3 cH, .slice AN 4 cN] 32)).alloc (.cells #[.slice none 0 0] 24) = w0 at K0 K1 B0 ⊢
  obtain ⟨t0, t1, t2, t3⟩ := K0.three
  have K0 := Lib.hid K0
  have K1 := Lib.hid K1
  have B0 := Lib.hid B0
  go_upto_region 5 with (go_at_call 46; (with_reducible refine (IX.out _ B0.out).mono ?_); rintro e w2 ⟨rfl, hb⟩; have B2 := Lib.hid (B0.out.trans (hb.mono B0.out.size)); have K20 := Lib.hid (K0.out.below hb K0.out.lt); have K21 := Lib.hid (K1.out.below hb K1.out.lt); clear hb t0 t1 t2 t3)
  have hz2 := K21.out.lt
  have L0 := (K20.out.alloc (.cells #[.int .i64 1] 3)).alloc (.cells #[.func (.func 55) #[] #[.pointer (some ⟨w.heap.size + 1, 0, none⟩), .pointer (some ⟨w.heap.size, 0, none⟩), .pointer (some ⟨w2.heap.size, 0, none⟩), .pointer (some ⟨w2.heap.size + 1, 0, none⟩)]] 98)
  have L1 := (K21.out.alloc (.cells #[.int .i64 1] 3)).alloc (.cells #[.func (.func 55) #[] #[.pointer (some ⟨w.heap.size + 1, 0, none⟩), .pointer (some ⟨w.heap.size, 0, none⟩), .pointer (some ⟨w2.heap.size, 0, none⟩), .pointer (some ⟨w2.heap.size + 1, 0, none⟩)]] 98)
  have L2 := (Blk.new w2 3 #[.int .i64 1]).alloc (.cells #[.func (.func 55) #[] #[.pointer (some ⟨w.heap.size + 1, 0, none⟩), .pointer (some ⟨w.heap.size, 0, none⟩), .pointer (some ⟨w2.heap.size, 0, none⟩), .pointer (some ⟨w2.heap.size + 1, 0, none⟩)]] 98)
  have L3 := Blk.new (w2.alloc (.cells #[.int .i64 1] 3)) 98 #[.func (.func 55) #[] #[.pointer (some ⟨w.heap.size + 1, 0, none⟩), .pointer (some ⟨w.heap.size, 0, none⟩), .pointer (some ⟨w2.heap.size, 0, none⟩), .pointer (some ⟨w2.heap.size + 1, 0, none⟩)]]
  have B5 := (B2.out.alloc B2.out.size (.cells #[.int .i64 1] 3)).alloc (by have := B2.out.size; simp; omega) (.cells #[.func (.func 55) #[] #[.pointer (some ⟨w.heap.size + 1, 0, none⟩), .pointer (some ⟨w.heap.size, 0, none⟩), .pointer (some ⟨w2.heap.size, 0, none⟩), .pointer (some ⟨w2.heap.size + 1, 0, none⟩)]] 98)
  have hs5 : ((w2.alloc (.cells #[.int .i64 1] 3)).alloc (.cells #[.func (.func 55) #[] #[.pointer (some ⟨w.heap.size + 1, 0, none⟩), .pointer (some ⟨w.heap.size, 0, none⟩), .pointer (some ⟨w2.heap.size, 0, none⟩), .pointer (some ⟨w2.heap.size + 1, 0, none⟩)]] 98)).heap.size = w2.heap.size + 1 + 1 := by simp
  rw [World.size_alloc] at L3
  generalize (w2.alloc (.cells #[.int .i64 1] 3)).alloc (.cells #[.func (.func 55) #[] #[.pointer (some ⟨w.heap.size + 1, 0, none⟩), .pointer (some ⟨w.heap.size, 0, none⟩), .pointer (some ⟨w2.heap.size, 0, none⟩), .pointer (some ⟨w2.heap.size + 1, 0, none⟩)]] 98) = w5 at L0 L1 L2 L3 B5 hs5 ⊢
  have hE : WE w.heap.size w.heap.size (w.heap.size + 1) w2.heap.size (w2.heap.size + 1) (w2.heap.size + 1 + 1) AH AN cH 4 cN T1.lv T1.nx w5 := ⟨L0, L1, L2, L3, NN.out.below B5, by omega, by omega⟩
  have CC := Lib.hid (way1 (b0 := w.heap.size) (b1 := w.heap.size) (b3 := w.heap.size + 1) (b4 := w2.heap.size) (b5 := w2.heap.size + 1) (Bi := w2.heap.size + 1 + 1) (AH := AH) (AN := AN) (cH := cH) (cN := cN) (lv := T1.lv) w5 none 0 hE (World.ownsRow_nil _ _ _ _))
  have B5 := Lib.hid B5
  have HE := Lib.hid hE
  obtain ⟨c1, c2, c3, c4, c5⟩ := hE.cells
  clear hE L0 L1 L2 L3
  go_wp2_with ((with_reducible refine (CC.out).mono ?_); rintro e w6 ⟨⟨v, rfl⟩, hD, hK⟩; have B6 := Lib.hid (hD.1.below (B := w2.heap.size + 1 + 1) (fun b hb => by cases hb) (by omega)); have E6 := HE.out.below B6.out; obtain ⟨y1, y2, y3, y4, y5⟩ := E6.cells; clear hD hK)
  go_ret
  exact ⟨rfl, B5.out.trans (B6.out.mono (by have := B2.out.size; omega))⟩
set_option maxRecDepth 100000 in
set_option maxHeartbeats 4000000 in
theorem rows2 (AH : Option Addr) (cH : Nat) (AN : Option Addr) (cN : Nat) (w : World) (h : TS w AH AN T2) :
    Calls Tryz.prog 33 #[.agg #[.int .i64 2, .slice AH 3 cH, .slice AN 3 cN]] w fun e w' => ∃ g c' X xc, e = .returned (.slice (some ⟨g, 0, none⟩) 1 c') ∧ (w.heap.size ≤ g ∧ ∀ ad, X = some ad → w.heap.size ≤ ad.block) ∧ g < w'.heap.size ∧ w'.cell? ⟨g, 0, none⟩ = some (.slice X 3 xc) ∧ Reads w' w'.heap.size X 3 (il [-1, -2, -3]) ∧ w'.cell? ⟨g, 1, none⟩ = some (.int .i64 0) ∧ Below w.heap.size w w' := by
  have IX := Lib.hid (show ∀ W, Below w.heap.size w W → Calls Tryz.prog 46 #[.slice AH 3 cH, .agg #[.int .i64 0, .int .i64 0]] W fun e W' => e = .returned (.int .i64 1) ∧ Below W.heap.size W W' from fun W hb => (pindex_any AH 3 cH lnf 0 0 W (h.1.later hb) (by omega)).mono fun e W' ⟨he, hx⟩ => ⟨by rw [he, px_lnf], hx⟩)
  have NN := Lib.hid h.2
  clear h
  have K0 := (Blk.new w 32 #[.int .i64 2, .slice AH 3 cH, .slice AN 3 cN]).alloc (.cells #[.slice none 0 0] 24)
  have K1 := Blk.new (w.alloc (.cells #[.int .i64 2, .slice AH 3 cH, .slice AN 3 cN] 32)) 24 #[.slice none 0 0]
  rw [World.size_alloc] at K1
  have B0 := ((Below.refl w.heap.size w).alloc (Nat.le_refl _) (.cells #[.int .i64 2, .slice AH 3 cH, .slice AN 3 cN] 32)).alloc (by simp) (.cells #[.slice none 0 0] 24)
  go_enter Tryz.func33, Tryz.ntmps33
  go_upto_region 2 with (fail)
  generalize (w.alloc (.cells #[.int .i64 2, .slice AH 3 cH, .slice AN 3 cN] 32)).alloc (.cells #[.slice none 0 0] 24) = w0 at K0 K1 B0 ⊢
  obtain ⟨t0, t1, t2, t3⟩ := K0.three
  have K0 := Lib.hid K0
  have K1 := Lib.hid K1
  have B0 := Lib.hid B0
  go_upto_region 5 with (go_at_call 46; (with_reducible refine (IX.out _ B0.out).mono ?_); rintro e w2 ⟨rfl, hb⟩; have B2 := Lib.hid (B0.out.trans (hb.mono B0.out.size)); have K20 := Lib.hid (K0.out.below hb K0.out.lt); have K21 := Lib.hid (K1.out.below hb K1.out.lt); clear hb t0 t1 t2 t3)
  have hz2 := K21.out.lt
  have L0 := (K20.out.alloc (.cells #[.int .i64 1] 3)).alloc (.cells #[.func (.func 55) #[] #[.pointer (some ⟨w.heap.size + 1, 0, none⟩), .pointer (some ⟨w.heap.size, 0, none⟩), .pointer (some ⟨w2.heap.size, 0, none⟩), .pointer (some ⟨w2.heap.size + 1, 0, none⟩)]] 98)
  have L1 := (K21.out.alloc (.cells #[.int .i64 1] 3)).alloc (.cells #[.func (.func 55) #[] #[.pointer (some ⟨w.heap.size + 1, 0, none⟩), .pointer (some ⟨w.heap.size, 0, none⟩), .pointer (some ⟨w2.heap.size, 0, none⟩), .pointer (some ⟨w2.heap.size + 1, 0, none⟩)]] 98)
  have L2 := (Blk.new w2 3 #[.int .i64 1]).alloc (.cells #[.func (.func 55) #[] #[.pointer (some ⟨w.heap.size + 1, 0, none⟩), .pointer (some ⟨w.heap.size, 0, none⟩), .pointer (some ⟨w2.heap.size, 0, none⟩), .pointer (some ⟨w2.heap.size + 1, 0, none⟩)]] 98)
  have L3 := Blk.new (w2.alloc (.cells #[.int .i64 1] 3)) 98 #[.func (.func 55) #[] #[.pointer (some ⟨w.heap.size + 1, 0, none⟩), .pointer (some ⟨w.heap.size, 0, none⟩), .pointer (some ⟨w2.heap.size, 0, none⟩), .pointer (some ⟨w2.heap.size + 1, 0, none⟩)]]
  have B5 := (B2.out.alloc B2.out.size (.cells #[.int .i64 1] 3)).alloc (by have := B2.out.size; simp; omega) (.cells #[.func (.func 55) #[] #[.pointer (some ⟨w.heap.size + 1, 0, none⟩), .pointer (some ⟨w.heap.size, 0, none⟩), .pointer (some ⟨w2.heap.size, 0, none⟩), .pointer (some ⟨w2.heap.size + 1, 0, none⟩)]] 98)
  have hs5 : ((w2.alloc (.cells #[.int .i64 1] 3)).alloc (.cells #[.func (.func 55) #[] #[.pointer (some ⟨w.heap.size + 1, 0, none⟩), .pointer (some ⟨w.heap.size, 0, none⟩), .pointer (some ⟨w2.heap.size, 0, none⟩), .pointer (some ⟨w2.heap.size + 1, 0, none⟩)]] 98)).heap.size = w2.heap.size + 1 + 1 := by simp
  rw [World.size_alloc] at L3
  generalize (w2.alloc (.cells #[.int .i64 1] 3)).alloc (.cells #[.func (.func 55) #[] #[.pointer (some ⟨w.heap.size + 1, 0, none⟩), .pointer (some ⟨w.heap.size, 0, none⟩), .pointer (some ⟨w2.heap.size, 0, none⟩), .pointer (some ⟨w2.heap.size + 1, 0, none⟩)]] 98) = w5 at L0 L1 L2 L3 B5 hs5 ⊢
  have hE : WE w.heap.size w.heap.size (w.heap.size + 1) w2.heap.size (w2.heap.size + 1) (w2.heap.size + 1 + 1) AH AN cH 3 cN T2.lv T2.nx w5 := ⟨L0, L1, L2, L3, NN.out.below B5, by omega, by omega⟩
  have CC := Lib.hid (way2 (b0 := w.heap.size) (b1 := w.heap.size) (b3 := w.heap.size + 1) (b4 := w2.heap.size) (b5 := w2.heap.size + 1) (Bi := w2.heap.size + 1 + 1) (AH := AH) (AN := AN) (cH := cH) (cN := cN) (lv := T2.lv) w5 none 0 hE (World.ownsRow_nil _ _ _ _))
  have B5 := Lib.hid B5
  have HE := Lib.hid hE
  obtain ⟨c1, c2, c3, c4, c5⟩ := hE.cells
  clear hE L0 L1 L2 L3
  go_wp2_with ((with_reducible refine (CC.out).mono ?_); rintro e w6 ⟨⟨v, rfl⟩, hD, hK⟩; obtain ⟨⟨g, d, X, xc, y0, y1, y2, y3, y4, y5⟩, B6⟩ := hD; have B6 := Lib.hid B6; have Y0 := Lib.hid y0; clear y0 hK)
  go_ret
  exact ⟨g, d, X, xc, rfl, ⟨by have := Y0.out.1; have := B2.out.size; omega, fun ad e => by have := Y0.out.2 ad e; have := B2.out.size; omega⟩, y2, y3, y4, y5, B5.out.trans B6.out⟩
end Go.Proofs.YtcgkkppidkkjiaaGreatDoor
