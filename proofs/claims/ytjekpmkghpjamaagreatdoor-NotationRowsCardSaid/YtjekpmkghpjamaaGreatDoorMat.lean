/- The walks of limited, Turn and Reduce. -/
/- Turn, Turn back and Reduce, at any valid tree. -/
/- Turn at a valid tree, with the number of nodes that it can have. -/
import Derived.Test.YtjekpmkghpjamaaGreatDoorMaa
import Derived.Test.YtjekpmkghpjamaaGreatDoorMak
import Derived.Test.YtjekpmkghpjamaaGreatDoorMab
import Derived.Test.YtjekpmkghpjamaaGreatDoorMaj
import Derived.Test.YtjekpmkghpjamaaGreatDoorMal
import Derived.Test.YtjekpmkghpjamaaGreatDoorMae
import Derived.Test.YtjekpmkghpjamaaGreatDoorMaq
import Derived.Test.YtjekpmkghpjamaaGreatDoorMad
import Derived.Test.YtjekpmkghpjamaaGreatDoorMar
import Derived.Test.YtjekpmkghpjamaaGreatDoorMap
import Derived.Test.YtjekpmkghpjamaaGreatDoorMan
import Derived.Test.YtjekpmkghpjamaaGreatDoorMac
import Derived.Test.YtjekpmkghpjamaaGreatDoorMas
import Derived.Test.YtjekpmkghpjamaaGreatDoorMag
import Derived.Test.YtjekpmkghpjamaaGreatDoorMah
import Derived.Below
import Derived.BigQuiet
import Derived.Carry
import Derived.Deep.AppendLies
import Derived.Deep.CutRange
import Derived.Deep.Draws
import Derived.Deep.QuietTactic
import Derived.Deep.RegionHeldLaw
import Derived.Deep.RegionLaw
import Derived.DeepKeys4
import Derived.IntWalk
import Derived.Laws.BitsLemmas
import Derived.Laws.MakeOwn
import Derived.Laws.OwnMore
import Derived.Laws.Rows
import Derived.Lib.Hide
import Derived.Lib.SliceRun
import Derived.LoopN
import Derived.Maps.OwnOps
import Derived.OwnWalk
import Derived.Shelf.Abstract
import Derived.Sort.Statements
import Derived.StillTail
import Derived.StillTailTactics
import Derived.Test.YtjekpmkghpjamaaGreatDoorRows
import Derived.WalkKit
import Derived.Test.YtjekpmkghpjamaaGreatDoorMai
namespace Go.Proofs.YtjekpmkghpjamaaGreatDoor
open Go.RowKit
set_option maxRecDepth 100000 in
theorem limited_ok (st : Int) (AH AN : Option Addr) (nh ch m cN : Nat) (w : World) (hm : m ≤ 4096) :
    Calls Tryz.prog 55 #[.agg #[.int .i64 st, .slice AH nh ch, .slice AN m cN]] w fun e w' => e = .returned (.tuple #[.agg #[.int .i64 st, .slice AH nh ch, .slice AN m cN], .int .i64 0]) ∧ Below w.heap.size w w' := by
  have d1 : decide (4096 < (m : Int)) = false := by rw [decide_eq_false_iff_not]; omega
  obtain ⟨k1, k2, b2⟩ := two_blk w #[.int .i64 st, .slice AH nh ch, .slice AN m cN] #[.int .i64 0, .slice none 0 0, .slice none 0 0] 25 25
  obtain ⟨c0, c1, c2, c3⟩ := k1.three
  obtain ⟨d0, d1', d2, d3, d4, d5, d6⟩ := k2.three6
  clear k1 k2 b2
  go_enter Tryz.func55, Tryz.ntmps55
  go_wp2
  obtain ⟨k1, k2, b2⟩ := two_blk w #[.int .i64 st, .slice AH nh ch, .slice AN m cN] #[.int .i64 st, .slice AH nh ch, .slice AN m cN] 25 25
  obtain ⟨e0, e1, e2, e3, e4, e5, e6⟩ := k2.three6
  exact bodyPost_ret (v := .tuple #[.agg #[.int .i64 st, .slice AH nh ch, .slice AN m cN], .int .i64 0]) (by simp [results, Tryz.results55, go_sem, e0, e1, e2]) rfl ⟨rfl, b2⟩
set_option maxRecDepth 100000 in
theorem limited_no (st : Int) (AH AN : Option Addr) (nh ch m cN : Nat) (w : World) (hm : 4096 < m) (hm2 : m ≤ 5000) :
    Calls Tryz.prog 55 #[.agg #[.int .i64 st, .slice AH nh ch, .slice AN m cN]] w fun e w' => e = .returned (.tuple #[.agg #[.int .i64 0, .slice none 0 0, .slice none 0 0], .int .i64 6]) ∧ Below w.heap.size w w' := by
  have d1 : decide (4096 < (m : Int)) = true := by rw [decide_eq_true_iff]; omega
  obtain ⟨k1, k2, b2⟩ := two_blk w #[.int .i64 st, .slice AH nh ch, .slice AN m cN] #[.int .i64 0, .slice none 0 0, .slice none 0 0] 25 25
  obtain ⟨c0, c1, c2, c3⟩ := k1.three
  obtain ⟨d0, d1', d2, d3, d4, d5, d6⟩ := k2.three6
  have K2 := Lib.hid k2
  have B2 := Lib.hid b2
  clear k1 k2 b2
  go_enter Tryz.func55, Tryz.ntmps55
  go_wp2
  obtain ⟨e0, e1, e2, e3, e4, e5, e6⟩ := K2.out.three6
  exact bodyPost_ret (v := .tuple #[.agg #[.int .i64 0, .slice none 0 0, .slice none 0 0], .int .i64 6]) (by simp [results, Tryz.results55, go_sem, e0, e1, e2]) rfl ⟨rfl, B2.out⟩
/-- three cells of a struct -/
theorem tri {w : World} {g : Nat} {t : TypeId} {a b c : Value} (h : Blk w g t #[a, b, c]) : w.cell? ⟨g, 0, none⟩ = some a ∧ w.cell? ⟨g, 1, none⟩ = some b ∧ w.cell? ⟨g, 2, none⟩ = some c := ⟨h.three.1, h.three.2.1, h.three.2.2.1⟩
theorem below_blk {B g : Nat} {w w' : World} {t : TypeId} {cs : Array Value} (hb : Below B w w') (h : Blk w g t cs) (hg : g < B) : Blk w' g t cs := h.below hb hg
theorem below_undrew {B : Nat} {w w' : World} (h : Below B w.drew w') : Below B w w' := ⟨h.os, h.tape, h.output, h.size, h.block⟩
/-- reordered, behind plant -/
theorem reo_at {w2 w3 w4 : World} {fb sn : Nat} {G G4 : Nat → Prop} {L : List Ndv} {n r : Int} {os : List Int} {AO : Option Addr} {N : Nat} {S' : Wk (List Ndv × Mem)} (hf : Fo w4 fb G4 (sn : Int) L) (hr : Fr G w3.drew G4 w4) (hG : ∀ k, G k → w2.heap.size ≤ k) (h3 : w2.heap.size ≤ w3.heap.size) (hb : Below w2.heap.size w2 w3) (hA : Reads w2 w2.heap.size AO os.length (il os)) (hl : os.length = N) (n1 : 1 ≤ N) (n25 : N ≤ 25) (hob : ∀ x ∈ os, 0 ≤ x ∧ x < (N : Int)) (hn : I32 n)
    (hv : visitF sn (elR sn os) N n ⟨(L, []), [], []⟩ = some (r, S')) (c : Nat) :
    Calls Tryz.prog 56 #[.pointer (some ⟨fb, 0, none⟩), .int .i32 n, .slice AO N c] w4 fun e w' =>
      ∃ A' c' G', e = .returned (.slice A' S'.out.length c') ∧ NL w' w4.heap.size A' c' S'.out ∧ Fr (fun k => G4 k ∨ ∃ ad, AO = some ad ∧ k = ad.block) w4 G' w' := by
  subst hl
  have hb4 : Below w2.heap.size w2 w4 := hb.trans (below_undrew (hr.below hG h3))
  refine reordered_any hf n1 (by omega) (fun x hx => ⟨(hob x hx).1, by have := (hob x hx).2; omega⟩) ((hA.below hb4).more hb4.size) (fun ad e hG4 => ?_) hn hv
  obtain ⟨ad', e', hlt, _⟩ := hA.2 (by omega)
  rw [e] at e'
  injection e' with e'
  subst e'
  rcases hr.new _ hG4 with h | h
  · have := hG _ h; omega
  · have h : w3.heap.size ≤ ad.block := h
    omega
/-- what reordered leaves alone -/
theorem not_at {w1 w2 w3 w4 : World} {G G4 : Nat → Prop} {AO : Option Addr} (hr : Fr G w3.drew G4 w4) (hG : ∀ k, G k → w2.heap.size ≤ k) (h3 : w2.heap.size ≤ w3.heap.size) (ho : ∀ ad, AO = some ad → w1.heap.size ≤ ad.block) : ∀ k, k < w1.heap.size → k < w2.heap.size → ¬ (G4 k ∨ ∃ ad, AO = some ad ∧ k = ad.block) := by
  intro k h1 h2 h
  rcases h with h | ⟨ad, e, rfl⟩
  · rcases hr.new _ h with h | h
    · have := hG _ h; omega
    · have h : w3.heap.size ≤ k := h
      omega
  · have := ho ad e; omega
theorem Fr.qreads {G G' : Nat → Prop} {w w' : World} (h : Fr G w G' w') {A : Option Addr} {n : Nat} {f : Nat → P2} (k : QReads w w.heap.size A n f) (hA : 0 < n → ∀ ad, A = some ad → ¬ G ad.block) : QReads w' w'.heap.size A n f := fun hn => by
  obtain ⟨g, o, e, hg, hc⟩ := k hn
  have hn2 := hA hn _ e
  exact ⟨g, o, e, Nat.lt_of_lt_of_le hg h.size, fun i hi => by
    obtain ⟨c1, c2⟩ := hc i hi
    exact ⟨(World.cell?_of_block (h.block g hg hn2)).trans c1, (World.cell?_of_block (h.block g hg hn2)).trans c2⟩⟩
theorem set3_fr (w : World) (g : Nat) (b0 b1 b2 : Value) : Fr (fun k => k = g) w (fun k => k = g) (((w.setCell ⟨g, 0, none⟩ b0).setCell ⟨g, 1, none⟩ b1).setCell ⟨g, 2, none⟩ b2) :=
  ((Fr.set_ w (p := ⟨g, 0, none⟩) b0 (by rfl)).trans (Fr.set_ _ (p := ⟨g, 1, none⟩) b1 (by rfl))).trans (Fr.set_ _ (p := ⟨g, 2, none⟩) b2 (by rfl))
/-- what Turn leaves -/
def TurnOut (sn : Nat) (n : Nat) (IM : List P2) (out : List (Int × List Int)) (w : World) (e : Ending) (w' : World) : Prop :=
  if out.length ≤ 4096 then ∃ AI cI AN cN, e = .returned (.tuple #[.agg #[.int .i64 (sn : Int), .slice AI n cI, .slice AN out.length cN], .int .i64 0]) ∧ (TS w' AI AN (trO sn n (lf IM) out) ∧ ∀ (H H' : Nat → Prop) (w'' : World), Fr H w' H' w'' → (∀ k, H k → k < w.heap.size) → TS w'' AI AN (trO sn n (lf IM) out)) ∧ Below w.heap.size w w'
  else e = .returned (.tuple #[.agg #[.int .i64 0, .slice none 0 0, .slice none 0 0], .int .i64 6]) ∧ Below w.heap.size w w'
set_option maxRecDepth 100000 in
set_option maxHeartbeats 8000000 in
theorem turn_any (k : Int) {T : Tr} {sn : Nat} {AH AN : Option Addr} {cH cN : Nat} {w : World} {nums : List Int} {L : List Ndv} {r : Int} {S' : Wk (List Ndv × Mem)} (hst : T.st = (sn : Int)) (hM : Mat w) (h : TS w AH AN T) (hT : Rt T) (hp : plantF (sn : Int) T.lv T.nx T.m [] = some (nums, L)) (hn : I32 (ig nums (T.m - 1)))
    (hv : visitF sn (elR sn (orgs T.f T.n (md k))) T.n (ig nums (T.m - 1)) ⟨(L, []), [], []⟩ = some (r, S')) (hlen : S'.out.length ≤ 5000) :
    Calls Tryz.prog 27 #[.int .i64 k, .agg #[.int .i64 (sn : Int), .slice AH T.n cH, .slice AN T.m cN]] w fun e w' => TurnOut sn T.n (imgs T.f T.n (md k)) S'.out w e w' := by
  have s1 := hT.s1
  have s2 := hT.s2
  have hd := hT.hd
  have hm8 := md_lt k
  have hw0 := hM.1
  have hIl := imgs_len hd hm8
  have hOl := orgs_len hd hm8
  have HOB := Lib.hid (orgs_bd hd hm8)
  have n25 := hd.1.2
  have n1 := hd.1.1
  have HTS := Lib.hid h
  have HM := Lib.hid hM
  have RI := Lib.hid (fun w' (hb : Below w.heap.size w w') => tright_yes AH cH AN cN T w' (h.later hb) hT)
  rw [hst] at RI
  have TU := Lib.hid (fun w' (hb : Below w.heap.size w w') => turned_any k AH T.n cH T.f w' (hM.below hb hw0) (h.1.later hb) hd)
  have NF := Lib.hid (fun w' => newForest_any (sn := sn) (w := w') (by omega) (by omega))
  have HP := Lib.hid hp
  have HN := Lib.hid hn
  have HV := Lib.hid hv
  have HTT := Lib.hid hT
  have HST := Lib.hid hst
  rw [hst] at s1 s2
  clear hst
  obtain ⟨IM, hIM⟩ : ∃ IM, IM = imgs T.f T.n (md k) := ⟨_, rfl⟩
  obtain ⟨OG, hOG⟩ : ∃ OG, OG = orgs T.f T.n (md k) := ⟨_, rfl⟩
  rw [← hIM, ← hOG] at TU
  rw [← hOG] at HV hOl HOB
  rw [← hIM] at hIl ⊢
  clear hIM hOG h hM hp hn hv hd hT
  go_enter Tryz.func27, Tryz.ntmps27
  have Z1 := Lib.hid ((Below.refl w.heap.size w).alloc (Nat.le_refl _) (.cells #[.int .i64 (sn : Int), .slice AH T.n cH, .slice AN T.m cN] 25))
  have Z2 := Lib.hid (Z1.out.alloc Z1.out.size (.cells #[.int .i64 0, .slice none 0 0, .slice none 0 0] 25))
  have KT := Lib.hid ((Blk.new w 25 #[.int .i64 (sn : Int), .slice AH T.n cH, .slice AN T.m cN]).alloc (.cells #[.int .i64 0, .slice none 0 0, .slice none 0 0] 25))
  have KR := Blk.new (w.alloc (.cells #[.int .i64 (sn : Int), .slice AH T.n cH, .slice AN T.m cN] 25)) 25 #[.int .i64 0, .slice none 0 0, .slice none 0 0]
  simp only [World.size_alloc] at KR
  have KR := Lib.hid KR
  obtain ⟨t0, t1, t2, t3⟩ := KT.out.three
  go_wp2_with (first
    | (go_at_call 22; (with_reducible refine (RI.out _ Z2.out).mono ?_); rintro e w1 ⟨rfl, hb⟩; have B1 := Lib.hid (Z2.out.trans (hb.mono Z2.out.size)); have KT1 := Lib.hid (KT.out.below hb KT.out.lt); have KR1 := Lib.hid (KR.out.below hb KR.out.lt); clear hb; obtain ⟨u0, u1, u2, u3⟩ := KT1.out.three)
    | (go_at_call 53; (with_reducible refine (TU.out _ B1.out).mono ?_); rintro e w2 ⟨AI, cI, AO, cO, rfl, hq, hr, ho, hi2, hio, hb⟩; have I2 := Lib.hid hi2; have IO2 := Lib.hid hio; have L2 := Lib.hid hb; have Q2 := Lib.hid hq; have R2 := Lib.hid hr; have O2 := Lib.hid ho; have B2 := Lib.hid (B1.out.trans (hb.mono B1.out.size)); have KT2 := Lib.hid (KT1.out.below hb KT1.out.lt); have KR2 := Lib.hid (KR1.out.below hb KR1.out.lt); clear hb hq hr ho hio hi2; obtain ⟨v0, v1, v2, v3⟩ := KT2.out.three)
    | (go_at_call 54; (with_reducible refine (NF.out _).mono ?_); rintro e w3 ⟨fb, G, rfl, hf, hg, hb⟩; have F3 := Lib.hid hf; have G3 := Lib.hid hg; have L3 := Lib.hid hb; have B3 := Lib.hid (B2.out.trans (hb.mono B2.out.size)); have KT3 := Lib.hid (KT2.out.below hb KT2.out.lt); have KR3 := Lib.hid (KR2.out.below hb KR2.out.lt); clear hb hf hg))
  have hsz1 := B1.out.size
  have hsz2 : w1.heap.size ≤ w2.heap.size := L2.out.size
  have hsz3 : w2.heap.size ≤ w3.heap.size := L3.out.size
  have S0 : w3.drew.cell? ⟨w.heap.size, 0, none⟩ = some (.int .i64 (sn : Int)) ∧ w3.drew.cell? ⟨w.heap.size, 1, none⟩ = some (.slice AH T.n cH) ∧ w3.drew.cell? ⟨w.heap.size, 2, none⟩ = some (.slice AN T.m cN) := ⟨KT3.out.three.1, KT3.out.three.2.1, KT3.out.three.2.2.1⟩
  have PL := Lib.hid (by
    have := plant_any (w := w3.drew) (AH := AH) (nh := T.n) (ch := cH) (cN := cN) (B := w.heap.size) (HST.out ▸ (F3.out.below ((Below.refl w3.heap.size w3).drew))) HTT.out (HTS.out.2.below (show Below w.heap.size w w3.drew from B3.out.drew)) (show w.heap.size ≤ w3.heap.size by omega) (fun k hk => by have := G3.out k hk; omega) (HST.out.symm ▸ HP.out)
    rwa [HST.out] at this)
  have hG3 : ∀ k, G k → w2.heap.size ≤ k := G3.out
  have HG3 := Lib.hid hG3
  clear hG3
  have k0l : w.heap.size < w2.heap.size := Nat.lt_of_lt_of_le KT1.out.lt hsz2
  have k1l : w.heap.size + 1 < w2.heap.size := Nat.lt_of_lt_of_le KR1.out.lt hsz2
  have k0m := KT1.out.lt
  have k1m := KR1.out.lt
  by_cases hle : S'.out.length ≤ 4096
  · go_region_held_law (fun w' => w'.cell? ⟨w.heap.size, 0, none⟩ = some (.int .i64 (sn : Int)) ∧ w'.cell? ⟨w.heap.size, 1, none⟩ = some (.slice AH T.n cH) ∧ w'.cell? ⟨w.heap.size, 2, none⟩ = some (.slice AN T.m cN)) (first | assumption | go_keep)
      (first
      | (go_at_call 57; (with_reducible refine (PL.out).mono ?_); rintro e w4 ⟨G4, rfl, hf4, hr4⟩; have BL4 := Lib.hid (below_undrew (hr4.below HG3.out hsz3)); have KT4 := Lib.hid (below_blk BL4.out KT3.out k0l); have KR4 := Lib.hid (below_blk BL4.out KR3.out k1l); have S4 := tri KT4.out; have F4 := Lib.hid hf4; have R4 := Lib.hid hr4; have RO := Lib.hid (reo_at hf4 hr4 HG3.out hsz3 L3.out R2.out hOl n1 n25 HOB.out HN.out HV.out cO); clear hf4 hr4)
      | (go_at_call 56; (with_reducible refine (RO.out).mono ?_); rintro e w5 ⟨AN', cN', G5, rfl, hn5, hr5⟩; have N5 := Lib.hid hn5; have R5 := Lib.hid hr5; have NG := Lib.hid (not_at R4.out HG3.out hsz3 O2.out); have KT5 := Lib.hid (hr5.blk KT4.out (NG.out _ k0m k0l)); have KR5 := Lib.hid (hr5.blk KR4.out (NG.out _ k1m k1l)); have S5 := tri KT5.out; have LI := Lib.hid (fun w' => limited_ok (sn : Int) AI AN' T.n cI S'.out.length cN' w' hle); clear hn5 hr5)
      | (go_at_call 55; (with_reducible refine (LI.out _).mono ?_); rintro e w6 ⟨rfl, hb6⟩; have B6 := Lib.hid hb6; have KT6 := KT5.out.below hb6 KT5.out.lt; have S6 := tri KT6; have KR6 := Lib.hid (KR5.out.below hb6 KR5.out.lt); obtain ⟨z0, z1, z2, z3, z4, z5, z6⟩ := KR6.out.three6; have S8 := tri (((KT6.far (p := ⟨w.heap.size + 1, 0, none⟩) (by show w.heap.size ≠ w.heap.size + 1; omega) (.int .i64 (sn : Int))).far (p := ⟨w.heap.size + 1, 1, none⟩) (by show w.heap.size ≠ w.heap.size + 1; omega) (.slice AI T.n cI)).far (p := ⟨w.heap.size + 1, 2, none⟩) (by show w.heap.size ≠ w.heap.size + 1; omega) (.slice AN' S'.out.length cN')); clear hb6 KT6))
    go_wp2
    have FZ := set3_fr w6 (w.heap.size + 1) (.int .i64 (sn : Int)) (.slice AI T.n cI) (.slice AN' S'.out.length cN')
    have KZ := ((KR6.out.set_ 0 (.int .i64 (sn : Int))).set_ 1 (.slice AI T.n cI)).set_ 2 (.slice AN' S'.out.length cN')
    have KZ : Blk (((w6.setCell ⟨w.heap.size + 1, 0, none⟩ (.int .i64 (sn : Int))).setCell ⟨w.heap.size + 1, 1, none⟩ (.slice AI T.n cI)).setCell ⟨w.heap.size + 1, 2, none⟩ (.slice AN' S'.out.length cN')) (w.heap.size + 1) 25 #[.int .i64 (sn : Int), .slice AI T.n cI, .slice AN' S'.out.length cN'] := by simpa using KZ
    obtain ⟨y0, y1, y2, y3⟩ := KZ.three
    have s4 : w3.heap.size ≤ w4.heap.size := BL4.out.size
    have hnt := not_at (w1 := w1) R4.out HG3.out hsz3 O2.out
    have hge : ∀ k, (fun k => G4 k ∨ ∃ ad, AO = some ad ∧ k = ad.block) k → w.heap.size ≤ k := fun k hk => by
      rcases Nat.lt_or_ge k w1.heap.size with q | q
      · exact absurd hk (hnt k q (by omega))
      · omega
    have q2 : QReads w2 w2.heap.size AI T.n (lf IM) := by rw [← hIl]; exact Q2.out
    have q4 : QReads w4 w4.heap.size AI T.n (lf IM) := (((q2.below (L3.out.mono (Nat.le_refl _))).below BL4.out).more (by omega))
    have q5 := R5.out.qreads q4 (fun h0 ad e hk => by
      obtain ⟨g, o, e', hg, _⟩ := q2 h0
      rw [e] at e'
      injection e' with e'
      have hgb : ad.block < w2.heap.size := by rw [e']; exact hg
      rcases hk with hk | ⟨ad', e1, e2⟩
      · rcases R4.out.new _ hk with h | h
        · have := HG3.out _ h; omega
        · have h : w3.heap.size ≤ ad.block := h
          omega
      · exact IO2.out ad ad' e e1 e2)
    have q6 := FZ.qreads (q5.later B6.out) (fun h0 ad e hk => by
      have := I2.out ad e
      omega)
    have nl6 := ((N5.out.keep (Fr.of_below (G := fun _ => False) B6.out) (fun _ h => h.elim)).keep FZ (fun k hk => by omega))
    have n6 := nl6.nr
    have hbz := (((B3.out.trans (BL4.out.mono (by omega))).trans (R5.out.below hge (by omega))).trans (B6.out.mono (Nat.le_trans (by omega) R5.out.size))).trans (FZ.below (B := w.heap.size) (fun k hk => by omega) (Nat.le_trans (Nat.le_trans (by omega) R5.out.size) B6.out.size))
    exact bodyPost_ret (v := .tuple #[.agg #[.int .i64 (sn : Int), .slice AI T.n cI, .slice AN' S'.out.length cN'], .int .i64 0]) (by simp [results, Tryz.results27, go_sem, y0, y1, y2]) rfl (by
      unfold TurnOut
      rw [if_pos hle]
      exact ⟨AI, cI, AN', cN', rfl, ⟨⟨q6, n6⟩, fun H H' w'' hF hd => ⟨hF.qreads q6 (fun h0 ad e hk => by have := I2.out ad e; have := hd _ hk; omega), (nl6.keep hF (fun k hk => by have := hd k hk; omega)).nr⟩⟩, hbz⟩)
  · go_region_held_law (fun w' => w'.cell? ⟨w.heap.size, 0, none⟩ = some (.int .i64 (sn : Int)) ∧ w'.cell? ⟨w.heap.size, 1, none⟩ = some (.slice AH T.n cH) ∧ w'.cell? ⟨w.heap.size, 2, none⟩ = some (.slice AN T.m cN)) (first | assumption | go_keep)
      (first
      | (go_at_call 57; (with_reducible refine (PL.out).mono ?_); rintro e w4 ⟨G4, rfl, hf4, hr4⟩; have BL4 := Lib.hid (below_undrew (hr4.below HG3.out hsz3)); have KT4 := Lib.hid (below_blk BL4.out KT3.out k0l); have KR4 := Lib.hid (below_blk BL4.out KR3.out k1l); have S4 := tri KT4.out; have F4 := Lib.hid hf4; have R4 := Lib.hid hr4; have RO := Lib.hid (reo_at hf4 hr4 HG3.out hsz3 L3.out R2.out hOl n1 n25 HOB.out HN.out HV.out cO); clear hf4 hr4)
      | (go_at_call 56; (with_reducible refine (RO.out).mono ?_); rintro e w5 ⟨AN', cN', G5, rfl, hn5, hr5⟩; have N5 := Lib.hid hn5; have R5 := Lib.hid hr5; have NG := Lib.hid (not_at R4.out HG3.out hsz3 O2.out); have KT5 := Lib.hid (hr5.blk KT4.out (NG.out _ k0m k0l)); have KR5 := Lib.hid (hr5.blk KR4.out (NG.out _ k1m k1l)); have S5 := tri KT5.out; have LI := Lib.hid (fun w' => limited_no (sn : Int) AI AN' T.n cI S'.out.length cN' w' (by omega) hlen); clear hn5 hr5)
      | (go_at_call 55; (with_reducible refine (LI.out _).mono ?_); rintro e w6 ⟨rfl, hb6⟩; have B6 := Lib.hid hb6; have KT6 := KT5.out.below hb6 KT5.out.lt; have S6 := tri KT6; have KR6 := Lib.hid (KR5.out.below hb6 KR5.out.lt); obtain ⟨z0, z1, z2, z3, z4, z5, z6⟩ := KR6.out.three6; have S8 := tri (((KT6.far (p := ⟨w.heap.size + 1, 0, none⟩) (by show w.heap.size ≠ w.heap.size + 1; omega) (.int .i64 0)).far (p := ⟨w.heap.size + 1, 1, none⟩) (by show w.heap.size ≠ w.heap.size + 1; omega) (.slice none 0 0)).far (p := ⟨w.heap.size + 1, 2, none⟩) (by show w.heap.size ≠ w.heap.size + 1; omega) (.slice none 0 0)); clear hb6 KT6))
    go_wp2
    have FZ := set3_fr w6 (w.heap.size + 1) (.int .i64 0) (.slice none 0 0) (.slice none 0 0)
    have KZ := ((KR6.out.set_ 0 (.int .i64 0)).set_ 1 (.slice none 0 0)).set_ 2 (.slice none 0 0)
    have KZ : Blk (((w6.setCell ⟨w.heap.size + 1, 0, none⟩ (.int .i64 0)).setCell ⟨w.heap.size + 1, 1, none⟩ (.slice none 0 0)).setCell ⟨w.heap.size + 1, 2, none⟩ (.slice none 0 0)) (w.heap.size + 1) 25 #[.int .i64 0, .slice none 0 0, .slice none 0 0] := by simpa using KZ
    obtain ⟨y0, y1, y2, y3⟩ := KZ.three
    have s4 : w3.heap.size ≤ w4.heap.size := BL4.out.size
    have hnt := not_at (w1 := w1) R4.out HG3.out hsz3 O2.out
    have hge : ∀ k, (fun k => G4 k ∨ ∃ ad, AO = some ad ∧ k = ad.block) k → w.heap.size ≤ k := fun k hk => by
      rcases Nat.lt_or_ge k w1.heap.size with q | q
      · exact absurd hk (hnt k q (by omega))
      · omega
    have hbz := (((B3.out.trans (BL4.out.mono (by omega))).trans (R5.out.below hge (by omega))).trans (B6.out.mono (Nat.le_trans (by omega) R5.out.size))).trans (FZ.below (B := w.heap.size) (fun k hk => by omega) (Nat.le_trans (Nat.le_trans (by omega) R5.out.size) B6.out.size))
    exact bodyPost_ret (v := .tuple #[.agg #[.int .i64 0, .slice none 0 0, .slice none 0 0], .int .i64 6]) (by simp [results, Tryz.results27, go_sem, y0, y1, y2]) rfl (by
      unfold TurnOut
      rw [if_neg hle]
      exact ⟨rfl, hbz⟩)
end Go.Proofs.YtjekpmkghpjamaaGreatDoor
namespace Go.Proofs.YtjekpmkghpjamaaGreatDoor
open Go.RowKit
theorem root_I32 {sn : Nat} {T : Tr} {nums : List Int} {L : List Ndv} (hT : Rt T) (hst : T.st = (sn : Int)) (h : plantF (sn : Int) T.lv T.nx T.m [] = some (nums, L)) : I32 (ig nums (T.m - 1)) := by
  have s1 := hT.s1
  have s2 := hT.s2
  have m1 := hT.m1
  have h1 := (plantF_rng (by omega) (by simp; omega) h).1
  have h2 := (plantF_at h).1
  have := h1 _ (ig_mem (l := nums) (j := T.m - 1) (by omega))
  exact ⟨by omega, by omega⟩
/-- Turn, at a valid tree -/
theorem turn_ok {sn : Nat} {T : Tr} (k : Int) (hT : Rt T) (h9 : T.n ≤ 9) (hst : T.st = (sn : Int)) : ∃ out : List (Int × List Int), 1 ≤ out.length ∧ out.length ≤ 5000 ∧
    (∀ (w : World) (AH AN : Option Addr) (cH cN : Nat), Mat w → TS w AH AN T → Calls Tryz.prog 27 #[.int .i64 k, .agg #[.int .i64 (sn : Int), .slice AH T.n cH, .slice AN T.m cN]] w fun e w' => TurnOut sn T.n (imgs T.f T.n (md k)) out w e w') ∧
    (out.length ≤ 4096 → Rt (trO sn T.n (lf (imgs T.f T.n (md k))) out) ∧ ∀ e : Env sn, Phi (trO sn T.n (lf (imgs T.f T.n (md k))) out) e = Phi T (eT (rhoOf T.n (orgs T.f T.n (md k))) e)) := by
  obtain ⟨nums, L, p1, p2, p3, p4⟩ := plant_all hT hst
  have hm8 := md_lt k
  have hd := hT.hd
  have s1 := hT.s1
  have s2 := hT.s2
  have ho := (ord_of (orgs_len hd hm8) (orgs_nodup hd hm8) (orgs_bd hd hm8)).1
  obtain ⟨r, S', w1, w2, w3, w4⟩ := turn_walk (nums := nums) ho h9 hT hst p2 p4 p3
  have hlen : S'.out.length ≤ 5000 := by
    have h := (visit_len _ _ _ _ _ w1).2
    simp only [List.length_nil] at h
    omega
  refine ⟨S'.out, w2, hlen, fun w AH AN cH cN hM h => turn_any k hst hM h hT p1 (root_I32 hT hst p1) w1 hlen, fun h4 => ?_⟩
  obtain ⟨n1, n2, n3⟩ := w4 h4
  refine ⟨rt_out (by omega) (by omega) (imgs_hd hd hm8) n1 w2 h4 w3 n2, fun e => ?_⟩
  have := n3 e
  rw [w3] at this
  exact this
end Go.Proofs.YtjekpmkghpjamaaGreatDoor
namespace Go.Proofs.YtjekpmkghpjamaaGreatDoor
open Go.RowKit

theorem pow_aux {k sn p a b : Nat} (hk : k ≤ sn) (hs : 2 ≤ sn) (hp : 1 ≤ p) (h : b + k ≤ a + k * p) : b + 1 + 1 ≤ a + p * sn := by
  obtain ⟨d, rfl⟩ := Nat.exists_eq_add_of_le hk
  rw [Nat.mul_add, Nat.mul_comm p k]
  have := Nat.le_mul_of_pos_left d hp
  omega
theorem visit_pow {σ : Type} {sn : Nat} (hs : 2 ≤ sn) {el : σ → Int → Nat → Option (List Int × σ)} : ∀ (l : Nat) (n r : Int) (S S' : Wk σ), visitF sn el l n S = some (r, S') → S'.out.length + 1 ≤ S.out.length + sn ^ l
  | 0, n, r, S, S', h => by
    simp only [visitF, Option.some.injEq, Prod.mk.injEq] at h
    obtain ⟨_, rfl⟩ := h
    simp
  | l + 1, n, r, S, S', h => by
    have hp : 1 ≤ sn ^ l := Nat.pow_pos (by omega)
    have row : ∀ (xs : List Int) (t t' : Wk σ) (ys : List Int), rowF (visitF sn el l) xs t = some (ys, t') → t'.out.length + xs.length ≤ t.out.length + xs.length * sn ^ l := by
      intro xs
      induction xs with
      | nil => intro t t' ys h; simp only [rowF, Option.some.injEq, Prod.mk.injEq] at h; obtain ⟨_, rfl⟩ := h; simp
      | cons x xs ih =>
        intro t t' ys h
        simp only [rowF] at h
        cases hv : visitF sn el l x t with
        | none => rw [hv] at h; cases h
        | some p =>
          obtain ⟨y, t1⟩ := p
          rw [hv] at h
          simp only [Option.bind_some] at h
          cases hr : rowF (visitF sn el l) xs t1 with
          | none => rw [hr] at h; cases h
          | some q =>
            obtain ⟨ys', t2⟩ := q
            rw [hr] at h
            simp only [Option.bind_some, Option.some.injEq, Prod.mk.injEq] at h
            obtain ⟨_, rfl⟩ := h
            have h1 := visit_pow hs l _ _ _ _ hv
            have h2 := ih _ _ _ hr
            rw [List.length_cons, Nat.add_mul, Nat.one_mul]
            omega
    have hq : 2 ≤ sn ^ (l + 1) := by
      rw [Nat.pow_succ]
      have := Nat.mul_le_mul hp hs
      omega
    simp only [visitF] at h
    cases hf : S.fin.lookup n with
    | some i =>
      rw [hf] at h
      simp only [Option.some.injEq, Prod.mk.injEq] at h
      obtain ⟨_, rfl⟩ := h
      omega
    | none =>
      rw [hf] at h
      simp only at h
      split at h
      · simp only [Option.some.injEq, Prod.mk.injEq] at h
        obtain ⟨_, rfl⟩ := h
        omega
      · next hc =>
        cases he : el S.s n (l + 1) with
        | none => rw [he] at h; cases h
        | some p =>
          obtain ⟨own, e⟩ := p
          rw [he] at h
          simp only [Option.bind_some] at h
          cases hr : rowF (visitF sn el l) (own.take sn) { S with s := e } with
          | none => rw [hr] at h; cases h
          | some q =>
            obtain ⟨next, S2⟩ := q
            rw [hr] at h
            simp only [Option.bind_some, Option.some.injEq, Prod.mk.injEq] at h
            obtain ⟨_, rfl⟩ := h
            have h1 := row _ _ _ _ hr
            simp only at h1 ⊢
            simp only [List.length_append, List.length_singleton]
            have hx : (own.take sn).length ≤ sn := by rw [List.length_take]; omega
            rw [Nat.pow_succ]
            exact pow_aux hx hs hp h1
/-- Turn, at a valid tree with few positions -/
theorem turn_few {sn : Nat} {T : Tr} (k : Int) (hT : Rt T) (h9 : T.n ≤ 9) (hst : T.st = (sn : Int)) (hq : sn ^ T.n ≤ 4096) : ∃ out : List (Int × List Int), 1 ≤ out.length ∧ out.length ≤ 4096 ∧
    (∀ (w : World) (AH AN : Option Addr) (cH cN : Nat), Mat w → TS w AH AN T → Calls Tryz.prog 27 #[.int .i64 k, .agg #[.int .i64 (sn : Int), .slice AH T.n cH, .slice AN T.m cN]] w fun e w' => TurnOut sn T.n (imgs T.f T.n (md k)) out w e w') ∧
    Rt (trO sn T.n (lf (imgs T.f T.n (md k))) out) ∧ ∀ e : Env sn, Phi (trO sn T.n (lf (imgs T.f T.n (md k))) out) e = Phi T (eT (rhoOf T.n (orgs T.f T.n (md k))) e) := by
  obtain ⟨nums, L, p1, p2, p3, p4⟩ := plant_all hT hst
  have hm8 := md_lt k
  have hd := hT.hd
  have s1 := hT.s1
  have s2 := hT.s2
  have ho := (ord_of (orgs_len hd hm8) (orgs_nodup hd hm8) (orgs_bd hd hm8)).1
  obtain ⟨r, S', w1, w2, w3, w4⟩ := turn_walk (nums := nums) ho h9 hT hst p2 p4 p3
  have hlen : S'.out.length ≤ 4096 := by
    have h := visit_pow (by omega) _ _ _ _ _ w1
    simp only [List.length_nil] at h
    omega
  obtain ⟨n1, n2, n3⟩ := w4 hlen
  refine ⟨S'.out, w2, hlen, fun w AH AN cH cN hM h => turn_any k hst hM h hT p1 (root_I32 hT hst p1) w1 (by omega), rt_out (by omega) (by omega) (imgs_hd hd hm8) n1 w2 hlen w3 n2, fun e => ?_⟩
  have := n3 e
  rw [w3] at this
  exact this
end Go.Proofs.YtjekpmkghpjamaaGreatDoor
