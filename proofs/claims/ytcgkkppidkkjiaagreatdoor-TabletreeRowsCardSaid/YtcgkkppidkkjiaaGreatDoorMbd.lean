/- The walks of nodesOf and newForest. -/
/- The walk of examine, its easy ways. -/
/- The columns that examine lays. -/
/- The walk of plant. -/
/- The walks of limited, Turn and Reduce. -/
import Derived.Test.YtcgkkppidkkjiaaGreatDoorMaa
import Derived.Test.YtcgkkppidkkjiaaGreatDoorMbc
import Derived.Test.YtcgkkppidkkjiaaGreatDoorMan
import Derived.Test.YtcgkkppidkkjiaaGreatDoorMaj
import Derived.Test.YtcgkkppidkkjiaaGreatDoorMao
import Derived.Test.YtcgkkppidkkjiaaGreatDoorMaf
import Derived.Test.YtcgkkppidkkjiaaGreatDoorMas
import Derived.Test.YtcgkkppidkkjiaaGreatDoorMau
import Derived.Test.YtcgkkppidkkjiaaGreatDoorMat
import Derived.Test.YtcgkkppidkkjiaaGreatDoorMar
import Derived.Below
import Derived.BigQuiet
import Derived.Carry
import Derived.Deep.AppendLies
import Derived.Deep.CutRange
import Derived.Deep.Draws
import Derived.Deep.QuietTactic
import Derived.Deep.RegionHeldLaw
import Derived.Deep.RegionLaw
import Derived.DeepKeys4
import Derived.IntWalk
import Derived.Laws.OwnMore
import Derived.Laws.Rows
import Derived.Lib.Hide
import Derived.LoopN
import Derived.Maps.OwnOps
import Derived.OwnWalk
import Derived.Shelf.Abstract
import Derived.Sort.Statements
import Derived.StillTail
import Derived.StillTailTactics
import Derived.Test.YtcgkkppidkkjiaaGreatDoorRows
import Derived.WalkKit
import Derived.Laws.MakeOwn
import Derived.Test.YtcgkkppidkkjiaaGreatDoorMab
import Derived.Test.YtcgkkppidkkjiaaGreatDoorMac
import Derived.Test.YtcgkkppidkkjiaaGreatDoorMav
import Derived.Laws.BitsLemmas
import Derived.Lib.SliceRun
namespace Go.Proofs.YtcgkkppidkkjiaaGreatDoor
open Go.RowKit
/-- a node's own elements -/
def elN (st : Int) (L : List Ndv) (_ : Unit) (n : Int) (_ : Nat) : Option (List Int × Unit) := (nodeF st L n).map fun nd => (nd.r, ())
/-- the memory that it reads -/
def StN (fb xq : Nat) (st : Int) (L : List Ndv) (w : World) (G : Nat → Prop) (_ : Unit) : Prop :=
  ∃ H, Fo w fb H st L ∧ (∀ k, H k → G k) ∧ Blk w xq 101 #[.pointer (some ⟨fb, 0, none⟩)] ∧ G xq ∧ ∀ k, G k → k < w.heap.size
theorem Fo.st2 {w : World} {fb : Nat} {G : Nat → Prop} {st : Int} {L : List Ndv} (h : Fo w fb G st L) : w.cell? ⟨fb, 0, none⟩ = some (.int .i64 st) ∧ fb < w.heap.size ∧ 2 ≤ st ∧ st ≤ 8 ∧ (∀ n ∈ L, Nd8 n) ∧ G fb ∧ (∀ k, G k → k < w.heap.size) ∧ st + (L.length : Int) ≤ 2147483647 := by
  obtain ⟨A, c, mb, h1, h2, h3, h4, h5, h6, h7, h8, h9, h10, h11⟩ := h
  exact ⟨h1.three.1, h1.lt, h8, h9, h10, h4, h7, h11⟩
theorem nodeF_mem {st : Int} {L : List Ndv} {n : Int} {nd : Ndv} (h : nodeF st L n = some nd) : nd ∈ L := by
  unfold nodeF at h
  split at h
  · exact List.mem_of_getElem? h
  · cases h
theorem Blk.set8 {w : World} {g : Nat} {t : TypeId} {a0 a1 a2 a3 a4 a5 a6 a7 b0 b1 b2 b3 b4 b5 b6 b7 : Value} (h : Blk w g t #[a0, a1, a2, a3, a4, a5, a6, a7]) :
    Blk ((((((((w.setCell ⟨g, 0, none⟩ b0).setCell ⟨g, 1, none⟩ b1).setCell ⟨g, 2, none⟩ b2).setCell ⟨g, 3, none⟩ b3).setCell ⟨g, 4, none⟩ b4).setCell ⟨g, 5, none⟩ b5).setCell ⟨g, 6, none⟩ b6).setCell ⟨g, 7, none⟩ b7) g t #[b0, b1, b2, b3, b4, b5, b6, b7] ∧
    ∀ B, B ≤ g → Below B w ((((((((w.setCell ⟨g, 0, none⟩ b0).setCell ⟨g, 1, none⟩ b1).setCell ⟨g, 2, none⟩ b2).setCell ⟨g, 3, none⟩ b3).setCell ⟨g, 4, none⟩ b4).setCell ⟨g, 5, none⟩ b5).setCell ⟨g, 6, none⟩ b6).setCell ⟨g, 7, none⟩ b7) := by
  refine ⟨by simpa using (((((((h.set_ 0 b0).set_ 1 b1).set_ 2 b2).set_ 3 b3).set_ 4 b4).set_ 5 b5).set_ 6 b6).set_ 7 b7, fun B hB => ?_⟩
  exact ((((((((Below.refl B w).setCell hB _).setCell hB _).setCell hB _).setCell hB _).setCell hB _).setCell hB _).setCell hB _).setCell hB _
theorem Blk.eight8 {w : World} {g : Nat} {t : TypeId} {a b c d e f x y : Value} (h : Blk w g t #[a, b, c, d, e, f, x, y]) : w.cell? ⟨g, 0, none⟩ = some a ∧ w.cell? ⟨g, 1, none⟩ = some b ∧ w.cell? ⟨g, 2, none⟩ = some c ∧ w.cell? ⟨g, 3, none⟩ = some d ∧ w.cell? ⟨g, 4, none⟩ = some e ∧ w.cell? ⟨g, 5, none⟩ = some f ∧ w.cell? ⟨g, 6, none⟩ = some x ∧ w.cell? ⟨g, 7, none⟩ = some y :=
  ⟨by rw [h.cell]; rfl, by rw [h.cell]; rfl, by rw [h.cell]; rfl, by rw [h.cell]; rfl, by rw [h.cell]; rfl, by rw [h.cell]; rfl, by rw [h.cell]; rfl, by rw [h.cell]; rfl⟩
set_option maxRecDepth 100000 in
theorem nof1_any {w : World} {fb xq : Nat} {G : Nat → Prop} {st : Int} {L : List Ndv} {n : Int} {l : Nat} {nd : Ndv} (h : StN fb xq st L w G ()) (hk : nodeF st L n = some nd) :
    Calls Tryz.prog 85 #[.int .i32 n, .int .i64 (l : Int), .pointer (some ⟨xq, 0, none⟩)] w fun e w' => e = .returned (rowV nd.r) ∧ Below w.heap.size w w' := by
  obtain ⟨H, hf, hHG, hb, hx, hG⟩ := h
  have hR8 := (hf.st2.2.2.2.2.1 nd (nodeF_mem hk)).2.2
  have C := Lib.hid (node_any (hf.below ((Below.refl w.heap.size w).alloc (Nat.le_refl _) (.cells #[.int .i32 0, .int .i32 0, .int .i32 0, .int .i32 0, .int .i32 0, .int .i32 0, .int .i32 0, .int .i32 0] 132))) hk)
  obtain ⟨k0, k1, k2⟩ := (hb.alloc (.cells #[.int .i32 0, .int .i32 0, .int .i32 0, .int .i32 0, .int .i32 0, .int .i32 0, .int .i32 0, .int .i32 0] 132)).one
  obtain ⟨lv, rr⟩ := nd
  obtain ⟨x1, x2, x3, x4, x5, x6, x7, x8, rfl⟩ := oct hR8.1
  have B1 := Lib.hid ((Below.refl w.heap.size w).alloc (Nat.le_refl _) (.cells #[.int .i32 0, .int .i32 0, .int .i32 0, .int .i32 0, .int .i32 0, .int .i32 0, .int .i32 0, .int .i32 0] 132))
  have K1 := Lib.hid (Blk.new w 132 #[.int .i32 0, .int .i32 0, .int .i32 0, .int .i32 0, .int .i32 0, .int .i32 0, .int .i32 0, .int .i32 0])
  have hfl : ∀ (w : World), (Instr.field 134 (.agg #[.int .i64 lv, .int .i32 x1, .int .i32 x2, .int .i32 x3, .int .i32 x4, .int .i32 x5, .int .i32 x6, .int .i32 x7, .int .i32 x8]) 1).run Tryz.prog w = .ok (.agg #[.int .i32 x1, .int .i32 x2, .int .i32 x3, .int .i32 x4, .int .i32 x5, .int .i32 x6, .int .i32 x7, .int .i32 x8]) w := fun w => by kernel_rfl
  rw [nodV_eight] at C
  rw [rowV_eight]
  clear hf hb hk hR8
  go_enter Tryz.func85, Tryz.ntmps85
  go_wp2_with (go_at_call 86; (with_reducible refine (C.out).mono ?_); rintro e w2 ⟨rfl, hb2⟩; have B2 := Lib.hid (B1.out.trans (hb2.mono B1.out.size)); have K2 := K1.out.below hb2 K1.out.lt; have z0 := K2.cell 0; have z1 := K2.cell 1; have z2 := K2.cell 2; have z3 := K2.cell 3; have z4 := K2.cell 4; have z5 := K2.cell 5; have z6 := K2.cell 6; have z7 := K2.cell 7; have q0 := K2.frozen 0; have q1 := K2.frozen 1; have q2 := K2.frozen 2; have q3 := K2.frozen 3; have q4 := K2.frozen 4; have q5 := K2.frozen 5; have q6 := K2.frozen 6; have q7 := K2.frozen 7; have KK := Lib.hid K2; clear K2)
  obtain ⟨KF, BF⟩ := KK.out.set8 (b0 := .int .i32 x1) (b1 := .int .i32 x2) (b2 := .int .i32 x3) (b3 := .int .i32 x4) (b4 := .int .i32 x5) (b5 := .int .i32 x6) (b6 := .int .i32 x7) (b7 := .int .i32 x8)
  obtain ⟨y0, y1, y2, y3, y4, y5, y6, y7⟩ := KF.eight8
  exact bodyPost_ret (v := .agg #[.int .i32 x1, .int .i32 x2, .int .i32 x3, .int .i32 x4, .int .i32 x5, .int .i32 x6, .int .i32 x7, .int .i32 x8]) (by simp [results, Tryz.results85, go_sem, y0, y1, y2, y3, y4, y5, y6, y7]) rfl ⟨rfl, B2.out.trans (BF _ (Nat.le_refl _))⟩
theorem StN.els {sn : Nat} {fb xq lm : Nat} {L : List Ndv} (b : WB) (hb : b.fb = fb) : Els sn (StN fb xq (sn : Int) L) (elN (sn : Int) L) b lm 85 #[.pointer (some ⟨xq, 0, none⟩)] where
  keep := fun ⟨H, hf, hHG, hx, hxG, hG⟩ hF hd => ⟨H, hf.keep hF (fun k hk => hd k (hHG k hk)), hHG, hF.blk hx (hd _ hxG), hxG, fun k hk => Nat.lt_of_lt_of_le (hG k hk) hF.size⟩
  lt := fun ⟨H, hf, hHG, hx, hxG, hG⟩ => hG
  sts := fun ⟨H, hf, hHG, hx, hxG, hG⟩ => by rw [hb]; exact ⟨hf.st2.1, hf.st2.2.1⟩
  call := fun w G s s' n l r h1 h2 _ hS he => by
    unfold elN at he
    cases hk : nodeF (sn : Int) L n with
    | none => rw [hk] at he; cases he
    | some nd =>
      rw [hk] at he
      simp only [Option.map_some, Option.some.injEq, Prod.mk.injEq] at he
      obtain ⟨rfl, _⟩ := he
      obtain ⟨H, hf, hHG, hx, hxG, hG⟩ := id hS
      refine ⟨(hf.st2.2.2.2.2.1 nd (nodeF_mem hk)).2.2, (nof1_any (l := l) hS hk).mono fun e w' ⟨e1, e2⟩ => ⟨G, e1, ?_, Fr.of_below e2⟩⟩
      exact ⟨H, hf.below e2, hHG, (Fr.of_below (G := fun _ => False) e2).blk hx (fun h => h), hxG, fun k hk => Nat.lt_of_lt_of_le (hG k hk) e2.size⟩
set_option maxRecDepth 100000 in
/-- the nodes of the reduced tree -/
theorem nodesOf_anyR {w : World} {fb sn lm l : Nat} {G : Nat → Prop} {L : List Ndv} {n r : Int} {S' : Wk Unit} (hf : Fo w fb G (sn : Int) L) (hl : l ≤ lm) (hlm : lm ≤ 100) (hn : I32 n) (hv : visitF sn (elN (sn : Int) L) l n ⟨(), [], []⟩ = some (r, S')) :
    Calls Tryz.prog 61 #[.pointer (some ⟨fb, 0, none⟩), .int .i32 n, .int .i64 (l : Int)] w fun e w' =>
      ∃ A c G', e = .returned (.slice A S'.out.length c) ∧ NL w' w.heap.size A c S'.out ∧ Fr G w G' w' := by
  obtain ⟨_, _, s1, s2, _, _, hG, _⟩ := hf.st2
  have hS : StN fb w.heap.size (sn : Int) L (w.alloc (.cells #[.pointer (some ⟨fb, 0, none⟩)] 101)) (fun k => G k ∨ k = w.heap.size) () :=
    ⟨G, hf.below ((Below.refl _ _).alloc (Nat.le_refl _) _), fun k hk => .inl hk, Blk.new w _ _, .inr rfl, fun k hk => by
      rcases hk with hk | hk
      · have := hG k hk; simp; omega
      · simp; omega⟩
  have C := Lib.hid (walk_any (cb := #[.pointer (some ⟨w.heap.size, 0, none⟩)]) hlm (by omega) (by omega) (fun xf xn xp xe xv mb bs => StN.els (lm := lm) _ rfl) (enters_of Tryz.func85 (by kernel_rfl) rfl) hl hn hv hS)
  obtain ⟨k0, k1, k2⟩ := (Blk.new w 101 #[.pointer (some ⟨fb, 0, none⟩)]).one
  have F1 := Lib.hid (Fr.alloc G w (.cells #[.pointer (some ⟨fb, 0, none⟩)] 101))
  clear hf hv hS hG
  go_enter Tryz.func61, Tryz.ntmps61
  go_wp2_with (go_at_call 84; (with_reducible refine (C.out).mono ?_); rintro e w2 ⟨A, c, G', rfl, hnr, _, hF⟩; have HN := Lib.hid hnr; have HF := Lib.hid hF; clear hnr hF)
  go_ret
  refine ⟨A, c, G', rfl, HN.out.low (by simp), ⟨HF.out.os.trans F1.out.os, HF.out.tape.trans F1.out.tape, HF.out.output.trans F1.out.output, Nat.le_trans F1.out.size HF.out.size, fun k hk hG => ?_, fun k hk => ?_⟩⟩
  · rw [HF.out.block k (by simp; omega) (fun h => h.elim hG (by omega))]
    exact F1.out.block k hk hG
  · rcases HF.out.new k hk with (h | h) | h
    · exact .inl h
    · exact .inr (by omega)
    · exact .inr (by simp at h; omega)
end Go.Proofs.YtcgkkppidkkjiaaGreatDoor
namespace Go.Proofs.YtcgkkppidkkjiaaGreatDoor
open Go.RowKit
abbrev Mem := List (Int × List Int)
/-- the forest and what is known already -/
def Exs (sn : Nat) (fb kb : Nat) (w : World) (G : Nat → Prop) (s : List Ndv × Mem) : Prop :=
  ∃ H, Fo w fb H (sn : Int) s.1 ∧ (∀ k, H k → G k ∧ k ≠ kb) ∧ MapOf Tryz.prog w 21 kb (fun x => .int .i32 x) rowV (fun n => s.2.lookup n) ∧ G kb ∧ (∀ k, G k → k < w.heap.size) ∧ ∀ n R, s.2.lookup n = some R → R8 R
section
variable {sn fb kb : Nat} {w w' : World} {G H H' : Nat → Prop} {s : List Ndv × Mem}
theorem Exs.keep (h : Exs sn fb kb w G s) (hf : Fr H w H' w') (hd : ∀ k, G k → ¬ H k) : Exs sn fb kb w' G s := by
  obtain ⟨H1, h1, h2, h3, h4, h5, h6⟩ := h
  exact ⟨H1, h1.keep hf (fun k hk => hd k (h2 k hk).1), h2, hf.map h3 (hd _ h4), h4, fun k hk => Nat.lt_of_lt_of_le (h5 k hk) hf.size, h6⟩
theorem Exs.below (h : Exs sn fb kb w G s) (hb : Below w.heap.size w w') : Exs sn fb kb w' G s := h.keep (Fr.of_below (G := fun _ => False) hb) (fun _ _ h => h)
theorem Exs.lt (h : Exs sn fb kb w G s) : ∀ k, G k → k < w.heap.size := by
  obtain ⟨H1, h1, h2, h3, h4, h5, h6⟩ := h
  exact h5
end
end Go.Proofs.YtcgkkppidkkjiaaGreatDoor
namespace Go.Proofs.YtcgkkppidkkjiaaGreatDoor
open Go.RowKit
section
variable {sn fb kb : Nat} {w w' : World} {G : Nat → Prop} {s : List Ndv × Mem}
theorem Exs.forest (h : Exs sn fb kb w G s) : ∃ H, Fo w fb H (sn : Int) s.1 ∧ ∀ w' H' L', Fo w' fb H' (sn : Int) L' → Fr H w H' w' → Exs sn fb kb w' (fun k => G k ∨ H' k) (L', s.2) ∧ Fr G w (fun k => G k ∨ H' k) w' := by
  obtain ⟨H, hf, hHG, hm, hG1, hG2, hR⟩ := h
  refine ⟨H, hf, fun w' H' L' hf' hF => ⟨⟨H', hf', fun k hk => ⟨.inr hk, ?_⟩, hF.map hm (fun hk => (hHG _ hk).2 rfl), .inl hG1, fun k hk => ?_, hR⟩, hF.weak (fun k hk => (hHG k hk).1) (fun k hk => hk.elim .inl (fun hk => ?_))⟩⟩
  · rcases hF.new k hk with h | h
    · exact (hHG k h).2
    · have := hG2 _ hG1; omega
  · rcases hk with hk | hk
    · exact Nat.lt_of_lt_of_le (hG2 k hk) hF.size
    · exact hf'.st2.2.2.2.2.2.2.1 k hk
  · rcases hF.new k hk with h | h
    · exact .inl (hHG k h).1
    · exact .inr h
end
end Go.Proofs.YtcgkkppidkkjiaaGreatDoor
namespace Go.Proofs.YtcgkkppidkkjiaaGreatDoor
open Go.RowKit
theorem nodV_len9 {n : Ndv} (h : n.r.length = 8) : ∃ a b c d e f g i, n = ⟨n.lv, [a, b, c, d, e, f, g, i]⟩ := by
  obtain ⟨a, b, c, d, e, f, g, i, hh⟩ := oct h
  obtain ⟨lv, r⟩ := n
  simp only at hh
  subst hh
  exact ⟨a, b, c, d, e, f, g, i, rfl⟩
set_option maxRecDepth 100000 in
set_option maxHeartbeats 8000000 in
theorem plant_any {w : World} {fb : Nat} {G : Nat → Prop} {L L' : List Ndv} {T : Tr} {AH AN : Option Addr} {nh ch cN B : Nat} {nums : List Int} (h : Fo w fb G T.st L) (hT : Rtt T) (hN : NR w B AN T.m T.lv T.nx) (hB : B ≤ w.heap.size) (hG : ∀ k, G k → B ≤ k) (hp : plantF T.st T.lv T.nx T.m L = some (nums, L')) :
    Calls Tryz.prog 62 #[.pointer (some ⟨fb, 0, none⟩), .agg #[.int .i64 T.st, .slice AH nh ch, .slice AN T.m cN]] w fun e w' => ∃ G', e = .returned (.int .i32 (ig nums (T.m - 1))) ∧ Fo w' fb G' T.st L' ∧ Fr G w G' w' := by
  obtain ⟨hnl, hat⟩ := plantF_at hp
  obtain ⟨S1, S2, hd, M1, M2, nd, top⟩ := hT
  obtain ⟨g, o, hA, hgB, hcells⟩ := hN (by omega)
  subst hA
  obtain ⟨st, n, f, m, lv, nx⟩ := T
  simp only at *
  have hst := h.st2
  obtain ⟨q1, q2, q3, q4, q5, q6, q7, q8⟩ := hst
  have HF := Lib.hid h
  have HND := Lib.hid nd
  have HAT := Lib.hid hat
  have HC := Lib.hid hcells
  have HG := Lib.hid hG
  have HNL := Lib.hid hnl
  have HPP := Lib.hid hp
  have mz := mk_i32 (m := m) (by omega) (w.alloc (.cells #[.int .i64 st, .slice AH nh ch, .slice (some ⟨g, o, none⟩) m cN] 32))
  simp only [World.size_alloc] at mz
  have B1 := Lib.hid (((Below.refl w.heap.size w).alloc (Nat.le_refl _) (.cells #[.int .i64 st, .slice AH nh ch, .slice (some ⟨g, o, none⟩) m cN] 32)).alloc (by simp) (.cells (r32 (List.replicate m 0)) 21))
  have K1 := Lib.hid (Blk.new (w.alloc (.cells #[.int .i64 st, .slice AH nh ch, .slice (some ⟨g, o, none⟩) m cN] 32)) 21 (r32 (List.replicate m 0)))
  obtain ⟨t0, t1, t2, t3⟩ := (Blk.new w 32 #[.int .i64 st, .slice AH nh ch, .slice (some ⟨g, o, none⟩) m cN]).three
  obtain ⟨u0, u1, u2, u3⟩ := ((Blk.new w 32 #[.int .i64 st, .slice AH nh ch, .slice (some ⟨g, o, none⟩) m cN]).alloc (.cells (r32 (List.replicate m 0)) 21)).three
  simp only [World.size_alloc] at K1
  clear h nd hat hcells hG hnl q7 q5 top hp hN
  go_enter Tryz.func62, Tryz.ntmps62
  go_wp2
  go_loopw [18] (fun iv wr => ∃ (i : Nat) (n1 : List Int) (L1 : List Ndv) (G1 : Nat → Prop), i ≤ m ∧ iv = .int .i64 (i : Int) ∧ n1.length = i ∧ plantF st lv nx i L = some (n1, L1) ∧ Fo wr fb G1 st L1 ∧ Fr G w G1 wr ∧ ¬ G1 (w.heap.size + 1) ∧ Blk wr (w.heap.size + 1) 21 (r32 (n1 ++ List.replicate (m - n1.length) 0))) (fun iv _ => m - (intOf iv).toNat)
  case atStart =>
    refine ⟨0, [], L, G, Nat.zero_le _, rfl, rfl, rfl, HF.out.below B1.out, Fr.of_below B1.out, fun h => by have := HF.out.st2.2.2.2.2.2.2.1 _ h; omega, ?_⟩
    simpa using K1.out
  case round =>
    obtain ⟨i, n1, L1, G1, hi, rfl, hl1, hpl, hfo, hfr, hng, hkn⟩ := hrel
    obtain ⟨wo, rfl⟩ : ∃ wo, wo = wr := ⟨wr, rfl⟩
    have hsr : w.heap.size + 1 < wo.heap.size := hkn.lt
    have HP := Lib.hid hpl
    have HFO := Lib.hid hfo
    have HFR := Lib.hid hfr
    have HKN := Lib.hid hkn
    have HNG := Lib.hid hng
    have HL1 := Lib.hid hl1
    have BB := Lib.hid (hfr.below HG.out hB)
    clear hpl hfo hfr hkn hng hl1
    by_cases hlt : i < m
    · have d1 : decide ((i : Int) < (m : Int)) = true := by rw [decide_eq_true_iff]; omega
      obtain ⟨A', c', k1, k2, k3⟩ := HC.out i hlt
      obtain ⟨l1, l2, l3, l4⟩ := HND.out i hlt
      obtain ⟨n1', L1', r, L2, p1, p2, p3, p4, p5⟩ := HAT.out i hlt
      have hqq := HP.out.symm.trans p1
      simp only [Option.some.injEq, Prod.mk.injEq] at hqq
      obtain ⟨rfl, rfl⟩ := hqq
      have c1 : wo.cell? ⟨g, o + i * 2, none⟩ = some (.int .i64 (lv i)) := (BB.out.cell (p := ⟨g, _, none⟩) hgB).trans k1
      have c2 : wo.cell? ⟨g, o + i * 2 + 1, none⟩ = some (.slice A' (nx i).length c') := (BB.out.cell (p := ⟨g, _, none⟩) hgB).trans k2
      have hel := (k3.below BB.out)
      generalize hE : nx i = e at c2 hel l3 l4 p3
      generalize hV : lv i = l at c1 l1 l2 l4 p3
      have he8 : e.length ≤ 8 := by omega
      have HEL := Lib.hid hel
      have HL4 := Lib.hid l4
      have P3 := Lib.hid p3
      have P4 := Lib.hid p4
      have hgl : g < wo.heap.size := Nat.lt_of_lt_of_le hgB (Nat.le_trans hB HFR.out.size)
      clear k1 k2 k3 hel l4 p1 p2 p3 p4 p5 hE hV
      go_wp2
      go_loopw [29] (fun jv w2 => ∃ (j : Nat), j ≤ e.length ∧ jv = .int .i64 (j : Int) ∧ Blk w2 wo.heap.size 66 #[.int .i64 l, .slice A' e.length c'] ∧ Blk w2 (wo.heap.size + 1) 134 (nodC (pn l n1 e j)).toArray ∧ Below wo.heap.size wo w2) (fun jv _ => e.length - (intOf jv).toNat)
      case atStart =>
        have Z1 := (Blk.new wo 66 #[.int .i64 l, .slice A' e.length c']).alloc (.cells #[.int .i64 l, .int .i32 0, .int .i32 0, .int .i32 0, .int .i32 0, .int .i32 0, .int .i32 0, .int .i32 0, .int .i32 0] 134)
        have Z2 := Blk.new (wo.alloc (.cells #[.int .i64 l, .slice A' e.length c'] 66)) 134 #[.int .i64 l, .int .i32 0, .int .i32 0, .int .i32 0, .int .i32 0, .int .i32 0, .int .i32 0, .int .i32 0, .int .i32 0]
        simp only [World.size_alloc] at Z2
        exact ⟨0, Nat.zero_le _, rfl, Z1, Z2, ((Below.refl _ _).alloc (Nat.le_refl _) _).alloc (by simp) _⟩
      case round =>
        obtain ⟨j, hj, rfl, hz1, hz2, hb2⟩ := hrel
        have HZ1 := Lib.hid hz1
        have HZ2 := Lib.hid hz2
        have HB2 := Lib.hid hb2
        have hsz2 : wo.heap.size + 1 < wr.heap.size := hz2.lt
        clear hz1 hz2 hb2
        by_cases hje : j < e.length
        · have d2 : decide ((j : Int) < st) = true := by rw [decide_eq_true_iff]; omega
          obtain ⟨a1, a2, a3⟩ := HL4.out j hje
          obtain ⟨ad, e1, hadl, hcel⟩ := il_at (HEL.out) hje
          subst e1
          have hcel2 : wr.cell? (ad.add j) = some (.int .i64 (ig e j)) := (HB2.out.cell (p := ad.add j) (by rw [block_of_add]; have := BB.out.size; omega)).trans hcel
          have hpc := pn_cells (l := l) (nums := n1) hje he8
          obtain ⟨x, hx⟩ : ∃ x, (nodC (pn l n1 e j)).toArray[1 + j]? = some x := by
            have hl9 : (nodC (pn l n1 e j)).length = 9 := by simp [nodC, pn_len hj he8]
            have hlt9 : 1 + j < (nodC (pn l n1 e j)).toArray.size := by rw [List.size_toArray, hl9]; omega
            exact ⟨_, Array.getElem?_eq_getElem hlt9⟩
          have hz2c := (HZ2.out.cell (1 + j)).trans hx
          have hz2f := HZ2.out.frozen (1 + j)
          obtain ⟨zl0, zl1, _⟩ := HZ1.out.two
          generalize hK : ig e j = k at hcel2 hcel a1 a2 a3 hpc
          obtain ⟨kn, rfl⟩ := Int.eq_ofNat_of_zero_le a1
          have j0 : (0 : Int) ≤ (j : Int) := by omega
          have j1 : (j : Int) < 8 := by omega
          have k5 : (kn : Int) < 5000 := by
            by_cases q : 1 < l
            · have := (a3 q).1; omega
            · have := a2 (by omega); omega
          have cw : IntKind.i32.wrap (kn : Int) = (kn : Int) := IntWalk.i32_in _ ⟨by omega, by omega⟩
          have HPC := Lib.hid hpc
          clear hpc hx hcel
          by_cases hl1 : 1 < l
          · have hkn := (a3 hl1).1
            have hki : kn < n1.length := by have := HL1.out; omega
            have hd3 : decide (1 < l) = true := by rw [decide_eq_true_iff]; exact hl1
            have KN2 := Lib.hid (HKN.out.below HB2.out hsr)
            have hnc : (wr.setCell ⟨wo.heap.size + 1, 1 + j, none⟩ (.int .i32 (kn : Int))).cell? ⟨w.heap.size + 1, kn, none⟩ = some (.int .i32 (ig n1 kn)) := by
              have := (KN2.out.far (p := ⟨wo.heap.size + 1, 1 + j, none⟩) (by show w.heap.size + 1 ≠ wo.heap.size + 1; omega) (.int .i32 (kn : Int))).cell kn
              rw [this, r32_get (by simp; omega)]
              simp [ig, List.getD, List.getElem?_append_left hki]
            go_wp2
            have Z1 := (HZ1.out.far (p := ⟨wo.heap.size + 1, 1 + j, none⟩) (by show wo.heap.size ≠ wo.heap.size + 1; omega) (.int .i32 (kn : Int))).far (p := ⟨wo.heap.size + 1, 1 + j, none⟩) (by show wo.heap.size ≠ wo.heap.size + 1; omega) (.int .i32 (ig n1 kn))
            have Z2 := (HZ2.out.set_ (1 + j) (.int .i32 (kn : Int))).set_ (1 + j) (.int .i32 (ig n1 kn))
            have hpc := HPC.out
            rw [pv, if_pos hl1, Int.toNat_natCast] at hpc
            rw [Array.setIfInBounds_setIfInBounds, hpc] at Z2
            exact ⟨⟨j + 1, by omega, by go_num, Z1, Z2, (HB2.out.setCell (by show wo.heap.size ≤ wo.heap.size + 1; omega) _).setCell (by show wo.heap.size ≤ wo.heap.size + 1; omega) _⟩, by simp [intOf]; omega⟩
          · have hd3 : decide (1 < l) = false := by rw [decide_eq_false_iff_not]; exact hl1
            go_wp2
            have Z1 := HZ1.out.far (p := ⟨wo.heap.size + 1, 1 + j, none⟩) (by show wo.heap.size ≠ wo.heap.size + 1; omega) (.int .i32 (kn : Int))
            have Z2 := HZ2.out.set_ (1 + j) (.int .i32 (kn : Int))
            have hpc := HPC.out
            rw [pv, if_neg hl1] at hpc
            rw [hpc] at Z2
            exact ⟨⟨j + 1, by omega, by go_num, Z1, Z2, HB2.out.setCell (by show wo.heap.size ≤ wo.heap.size + 1; omega) _⟩, by simp [intOf]; omega⟩
        · obtain rfl : j = e.length := by omega
          have d2 : decide (((e.length : Nat) : Int) < st) = false := by rw [decide_eq_false_iff_not]; omega
          obtain ⟨y0, y1, y2, y3, y4, y5, y6, y7, hpn⟩ := nodV_len9 (pn_len (l := l) (nums := n1) (e := e) (Nat.le_refl _) he8)
          have hpn : pn l n1 e e.length = ⟨l, [y0, y1, y2, y3, y4, y5, y6, y7]⟩ := hpn
          have hz2 := HZ2.out
          rw [hpn] at hz2
          obtain ⟨v0, v1, v2, v3, v4, v5, v6, v7, v8⟩ := Blk.nine (t := 134) (show Blk wr (wo.heap.size + 1) _ #[.int .i64 l, .int .i32 y0, .int .i32 y1, .int .i32 y2, .int .i32 y3, .int .i32 y4, .int .i32 y5, .int .i32 y6, .int .i32 y7] from hz2)
          have hn8 : Nd8 (pn l n1 e e.length) := by
            refine ⟨by show (-9223372036854775808 : Int) ≤ l; omega, by show l < 9223372036854775808; have := hd.1.2; omega, pn_len (Nat.le_refl _) he8, fun x hx => ?_⟩
            have hx : x ∈ (e.take e.length).map (pv l n1) ++ List.replicate (8 - e.length) 0 := hx
            rcases List.mem_append.1 hx with hx | hx
            · rw [List.take_length] at hx
              obtain ⟨k, hk, rfl⟩ := List.mem_map.1 hx
              obtain ⟨j, hj, rfl⟩ := mem_ig hk
              obtain ⟨a1, a2, a3⟩ := HL4.out j hj
              by_cases q : 1 < l
              · obtain ⟨b1, _⟩ := a3 q
                have hlt : (ig e j).toNat < n1.length := by have := HL1.out; omega
                have := (plantF_rng (by omega) q8 HP.out).1 _ (ig_mem hlt)
                simp only [pv, if_pos q]
                omega
              · have := a2 (by omega)
                simp only [pv, if_neg q]
                omega
            · have := List.eq_of_mem_replicate hx
              omega
          have C := add_any (HFO.out.below HB2.out) hn8 P3.out
          rw [hpn, nodV_eight] at C
          have CH := Lib.hid C
          have KN2 := Lib.hid (HKN.out.below HB2.out hsr)
          clear hz2 C hn8
          go_wp2_with (go_at_call 87; (with_reducible refine (CH.out).mono ?_); rintro e w5 ⟨G2, rfl, hf5, hr5⟩; have F5 := Lib.hid hf5; have R5 := Lib.hid hr5; have K5 := Lib.hid (hr5.blk KN2.out HNG.out); have z0 := K5.out.cell i; rw [r32_get (by have := HL1.out; simp; omega)] at z0; have z1 := K5.out.frozen i; clear hf5 hr5)
          have ng2 : ¬ G2 (w.heap.size + 1) := fun h => (R5.out.new _ h).elim HNG.out (fun h => by omega)
          have ZF := F5.out.keep (Fr.set_ (G := fun k => k = w.heap.size + 1) w5 (p := ⟨w.heap.size + 1, i, none⟩) (.int .i32 r) rfl) (fun k hk e => ng2 (e ▸ hk))
          have ZR := (((HFR.out.trans (Fr.of_below (G := G1) (show Below wo.heap.size wo wr from HB2.out))).trans R5.out).set_new (p := ⟨w.heap.size + 1, i, none⟩) (by show w.heap.size ≤ w.heap.size + 1; omega) (.int .i32 r))
          have hl := HL1.out
          have ZK := K5.out.set_ i (.int .i32 r)
          rw [← hl, r32_step (by omega), hl] at ZK
          exact ⟨⟨i + 1, n1 ++ [r], L2, G2, by omega, by go_num, by simp [hl], P4.out, ZF, ZR, ng2, ZK⟩, by simp [intOf]; omega⟩
    · obtain rfl : i = m := by omega
      have d1 : decide ((i : Int) < (i : Int)) = false := by rw [decide_eq_false_iff_not]; omega
      obtain ⟨i', rfl⟩ : ∃ i', i = i' + 1 := ⟨i - 1, by omega⟩
      have hz := HKN.out.cell i'
      rw [r32_get (by have := HL1.out; simp; omega)] at hz
      have e1 : ((i' + 1 : Nat) : Int) - 1 = (i' : Int) := by omega
      have e2 : IntKind.i64.wrap (i' : Int) = (i' : Int) := IntWalk.i64_in _ ⟨by omega, by omega⟩
      go_wp2
      go_ret
      have hqq := HPP.out.symm.trans HP.out
      simp only [Option.some.injEq, Prod.mk.injEq] at hqq
      obtain ⟨rfl, rfl⟩ := hqq
      refine ⟨G1, ret_int ?_, HFO.out, HFR.out⟩
      rw [HL1.out, Nat.sub_self, List.replicate_zero, List.append_nil, Nat.add_sub_cancel]
end Go.Proofs.YtcgkkppidkkjiaaGreatDoor
namespace Go.Proofs.YtcgkkppidkkjiaaGreatDoor
open Go.RowKit
/-- three cells of a struct -/
theorem tri {w : World} {g : Nat} {t : TypeId} {a b c : Value} (h : Blk w g t #[a, b, c]) : w.cell? ⟨g, 0, none⟩ = some a ∧ w.cell? ⟨g, 1, none⟩ = some b ∧ w.cell? ⟨g, 2, none⟩ = some c := ⟨h.three.1, h.three.2.1, h.three.2.2.1⟩
theorem below_blk {B g : Nat} {w w' : World} {t : TypeId} {cs : Array Value} (hb : Below B w w') (h : Blk w g t cs) (hg : g < B) : Blk w' g t cs := h.below hb hg
theorem Fr.qreads {G G' : Nat → Prop} {w w' : World} (h : Fr G w G' w') {A : Option Addr} {n : Nat} {f : Nat → P2} (k : QReads w w.heap.size A n f) (hA : 0 < n → ∀ ad, A = some ad → ¬ G ad.block) : QReads w' w'.heap.size A n f := fun hn => by
  obtain ⟨g, o, e, hg, hc⟩ := k hn
  have hn2 := hA hn _ e
  exact ⟨g, o, e, Nat.lt_of_lt_of_le hg h.size, fun i hi => by
    obtain ⟨c1, c2⟩ := hc i hi
    exact ⟨(World.cell?_of_block (h.block g hg hn2)).trans c1, (World.cell?_of_block (h.block g hg hn2)).trans c2⟩⟩
theorem set3_fr (w : World) (g : Nat) (b0 b1 b2 : Value) : Fr (fun k => k = g) w (fun k => k = g) (((w.setCell ⟨g, 0, none⟩ b0).setCell ⟨g, 1, none⟩ b1).setCell ⟨g, 2, none⟩ b2) :=
  ((Fr.set_ w (p := ⟨g, 0, none⟩) b0 (by rfl)).trans (Fr.set_ _ (p := ⟨g, 1, none⟩) b1 (by rfl))).trans (Fr.set_ _ (p := ⟨g, 2, none⟩) b2 (by rfl))
end Go.Proofs.YtcgkkppidkkjiaaGreatDoor
