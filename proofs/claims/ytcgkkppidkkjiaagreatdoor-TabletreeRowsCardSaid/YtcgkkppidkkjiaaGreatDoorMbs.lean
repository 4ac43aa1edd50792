/- The walk of walk, around its visits. -/
/- The walks of nodesOf and newForest. -/
/- The columns that examine lays. -/
import Derived.Test.YtcgkkppidkkjiaaGreatDoorMaa
import Derived.Test.YtcgkkppidkkjiaaGreatDoorMae
import Derived.Test.YtcgkkppidkkjiaaGreatDoorMaj
import Derived.Test.YtcgkkppidkkjiaaGreatDoorMah
import Derived.Test.YtcgkkppidkkjiaaGreatDoorMbn
import Derived.Test.YtcgkkppidkkjiaaGreatDoorMbp
import Derived.Test.YtcgkkppidkkjiaaGreatDoorMbr
import Derived.Test.YtcgkkppidkkjiaaGreatDoorMbo
import Derived.Below
import Derived.BigQuiet
import Derived.Carry
import Derived.Deep.AppendLies
import Derived.Deep.CutRange
import Derived.Deep.Draws
import Derived.Deep.QuietTactic
import Derived.Deep.RegionHeldLaw
import Derived.Deep.RegionLaw
import Derived.DeepKeys4
import Derived.IntWalk
import Derived.Laws.OwnMore
import Derived.Laws.Rows
import Derived.Lib.Hide
import Derived.LoopN
import Derived.Maps.OwnOps
import Derived.OwnWalk
import Derived.Shelf.Abstract
import Derived.Sort.Statements
import Derived.StillTail
import Derived.StillTailTactics
import Derived.Test.YtcgkkppidkkjiaaGreatDoorRows
import Derived.WalkKit
import Derived.Test.YtcgkkppidkkjiaaGreatDoorMad
import Derived.Laws.MakeOwn
namespace Go.Proofs.YtcgkkppidkkjiaaGreatDoor
open Go.RowKit
attribute [local go_sem] run_store_fn
set_option maxRecDepth 100000 in
set_option maxHeartbeats 4000000 in
theorem walk_any {σ : Type} {sn lm : Nat} {St : World → (Nat → Prop) → σ → Prop} {el : σ → Int → Nat → Option (List Int × σ)} {fb : Nat} {gE : FuncId} {cb : Array Value} {w : World} {G : Nat → Prop} {s : σ} {l : Nat} {n r : Int} {S' : Wk σ}
    (hlm : lm ≤ 100) (hs1 : 2 ≤ sn) (hs2 : sn ≤ 8) (E : ∀ xf xn xp xe xv mb bs, Els sn St el ⟨xf, xn, xp, xe, xv, mb, fb, .func (.func gE) #[] cb, visVR xf xn xp xe xv, bs⟩ lm gE cb) (eg : ∀ args w, (callFunc gE args).run Tryz.prog w = .ok (.enter gE args) w)
    (hl : l ≤ lm) (hn : I32 n) (hv : visitF sn el l n ⟨s, [], []⟩ = some (r, S')) (h : St w G s) :
    Calls Tryz.prog 84 #[.pointer (some ⟨fb, 0, none⟩), .int .i32 n, .int .i64 (l : Int), .func (.func gE) #[] cb] w fun e w' =>
      ∃ A c G', e = .returned (.slice A S'.out.length c) ∧ NL w' w.heap.size A c S'.out ∧ St w' G' S'.s ∧ Fr G w G' w' := by
  have E0 := E 0 0 0 0 0 0 0
  have hlt := E0.lt h
  obtain ⟨w5, hw5⟩ : ∃ w5, w5 = ((((w.alloc (.cells #[.pointer (some ⟨fb, 0, none⟩)] 101)).alloc (.cells #[.func (.func gE) #[] cb] 136)).alloc (.cells #[.slice none 0 0] 30)).alloc (.map #[] 0)).alloc (.cells #[.map (some (w.heap.size + 1 + 1 + 1))] 158) := ⟨_, rfl⟩
  have hs5 : w5.heap.size = w.heap.size + 1 + 1 + 1 + 1 + 1 := by rw [hw5]; simp
  have c5 := (Blk.new w5 159 #[.nilFunc]).one
  rw [hs5, hw5] at c5
  obtain ⟨c50, c51, c52⟩ := c5
  have K1 := Blk.new w 101 #[.pointer (some ⟨fb, 0, none⟩)]
  have K2 := Blk.new (w.alloc (.cells #[.pointer (some ⟨fb, 0, none⟩)] 101)) 136 #[.func (.func gE) #[] cb]
  have K3 := Blk.new ((w.alloc (.cells #[.pointer (some ⟨fb, 0, none⟩)] 101)).alloc (.cells #[.func (.func gE) #[] cb] 136)) 30 #[.slice none 0 0]
  have K4 := MapOf.new Tryz.prog (((w.alloc (.cells #[.pointer (some ⟨fb, 0, none⟩)] 101)).alloc (.cells #[.func (.func gE) #[] cb] 136)).alloc (.cells #[.slice none 0 0] 30)) 21 (α := Int) (β := Int) (fun x => .int .i32 x) (fun x => .int .i64 x)
  have K5 := Blk.new ((((w.alloc (.cells #[.pointer (some ⟨fb, 0, none⟩)] 101)).alloc (.cells #[.func (.func gE) #[] cb] 136)).alloc (.cells #[.slice none 0 0] 30)).alloc (.map #[] 0)) 158 #[.map (some (w.heap.size + 1 + 1 + 1))]
  have K6 := Blk.new w5 159 #[visVR (w.heap.size + 1 + 1 + 1 + 1) (w.heap.size + 1 + 1) w.heap.size (w.heap.size + 1) (w.heap.size + 1 + 1 + 1 + 1 + 1)]
  have B6 : Below w.heap.size w (w5.alloc (.cells #[visVR (w.heap.size + 1 + 1 + 1 + 1) (w.heap.size + 1 + 1) w.heap.size (w.heap.size + 1) (w.heap.size + 1 + 1 + 1 + 1 + 1)] 159)) := by
    rw [hw5]
    exact ((((((Below.refl _ _).alloc (Nat.le_refl _) _).alloc (by simp) _).alloc (by simp; omega) _).alloc (by simp; omega) _).alloc (by simp; omega) _).alloc (by simp; omega) _
  simp only [World.size_alloc] at K2 K3 K4 K5
  rw [hs5] at K6
  have hW : WstR (sn : Int) St ⟨w.heap.size + 1 + 1 + 1 + 1, w.heap.size + 1 + 1, w.heap.size, w.heap.size + 1, w.heap.size + 1 + 1 + 1 + 1 + 1, w.heap.size + 1 + 1 + 1, fb, .func (.func gE) #[] cb, visVR (w.heap.size + 1 + 1 + 1 + 1) (w.heap.size + 1 + 1) w.heap.size (w.heap.size + 1) (w.heap.size + 1 + 1 + 1 + 1 + 1), w.heap.size⟩
      (w5.alloc (.cells #[visVR (w.heap.size + 1 + 1 + 1 + 1) (w.heap.size + 1 + 1) w.heap.size (w.heap.size + 1) (w.heap.size + 1 + 1 + 1 + 1 + 1)] 159)) (fun k => (k = w.heap.size + 1 + 1 ∨ k = w.heap.size + 1 + 1 + 1) ∨ G k) (fun k => k < w.heap.size + 6) ⟨s, [], []⟩ := by
    have hsz : (w5.alloc (.cells #[visVR (w.heap.size + 1 + 1 + 1 + 1) (w.heap.size + 1 + 1) w.heap.size (w.heap.size + 1) (w.heap.size + 1 + 1 + 1 + 1 + 1)] 159)).heap.size = w.heap.size + 6 := by rw [World.size_alloc, hs5]
    refine ⟨?_, ?_, ?_, K6, ?_, ?_, ?_, by rw [hsz]; show w.heap.size ≤ _; omega, ?_, .inl (.inr rfl), .inl (.inl rfl), G, none, 0, [], E0.keep h (Fr.of_below (G := fun _ => False) B6) (fun _ _ h => h), ?_, ?_, World.ownsRow_nil _ _ _ _, ?_, ?_⟩
    · rw [hw5]; exact K5.alloc _
    · rw [hw5]; exact ((((K1.alloc _).alloc _).alloc _).alloc _).alloc _
    · rw [hw5]; exact (((K2.alloc _).alloc _).alloc _).alloc _
    · intro k hk hT
      rcases hk with rfl | rfl | rfl | rfl <;> rcases hT with (hT | hT) | hT <;> first | (simp only at hT; omega) | (have := hlt _ hT; simp only at this; omega)
    · intro k hk
      rcases hk with (hk | hk) | hk
      · omega
      · omega
      · have := hlt _ hk; omega
    · intro k hk
      rw [hsz]
      exact hk
    · rw [hw5]
      exact (K4.of_block ((Below.heap_alloc _ _ _ (by simp)))).of_block (Below.heap_alloc _ _ _ (by simp))
    · intro k hk
      have := hlt k hk
      exact ⟨.inr hk, by simp only; omega, by simp only; omega, by simp [Value.ownBlock]⟩
    · rw [hw5]; exact (((K3.alloc _).alloc _).alloc _)
    · intro g hg; simp [Value.ownBlock] at hg
    · intro k hk; exact absurd hk (by simp)
  have V := Lib.hid (visit_any hlm hs1 hs2 (E _ _ _ _ _ _ _) eg l hl n r ⟨s, [], []⟩ S' _ _ _ hn hv hW)
  have HB6 := Lib.hid B6
  have HLT := Lib.hid hlt
  have HE := Lib.hid E0
  have HS5 := Lib.hid hs5
  rw [hw5] at V HB6 HS5
  clear K1 K2 K3 K4 K5 K6 hW B6 hlt E0 E h hv hw5 hs5
  have hmm := @run_makeMap Tryz.prog
  go_enter Tryz.func84, Tryz.ntmps84
  go_wp2_with ((with_reducible refine (V.out).mono ?_); rintro e w' ⟨T', rfl, hW', hF'⟩; have HW' := Lib.hid hW'; have HF' := Lib.hid hF'; clear hW' hF'; obtain ⟨G', A, c, xs, a1, a2, a3, a4, a5, a6⟩ := HW'.out.rest; obtain ⟨y0, y1, y2⟩ := a3.one; have A1 := Lib.hid a1; have A2 := Lib.hid a2; have A4 := Lib.hid a4; have A6 := Lib.hid a6; clear a1 a2 a3 a4 a5 a6)
  go_ret
  have hs6 := HB6.out.size
  refine ⟨A, c, G', rfl, ⟨xs, A4.out, A6.out.sub fun k _ hk => .inl (by omega)⟩, A1.out, ?_⟩
  · have hF := (Fr.of_below (G := G) HB6.out)
    have hN := HF'.out.new
    refine ⟨HF'.out.os.trans hF.os, HF'.out.tape.trans hF.tape, HF'.out.output.trans hF.output, Nat.le_trans hF.size HF'.out.size, fun k hk hG => ?_, fun k hk => ?_⟩
    · rw [HF'.out.block k (by simp; omega) (fun h => by
        rcases h with (h | h) | h
        · omega
        · omega
        · exact hG h)]
      exact HB6.out.block k hk
    · rcases hN k (A2.out k hk).1 with ((h | h) | h) | h
      · exact .inr (by omega)
      · exact .inr (by omega)
      · exact .inl h
      · exact .inr (Nat.le_trans hs6 h)
end Go.Proofs.YtcgkkppidkkjiaaGreatDoor
namespace Go.Proofs.YtcgkkppidkkjiaaGreatDoor
open Go.RowKit
/-- a node's own elements -/
def elN (st : Int) (L : List Ndv) (_ : Unit) (n : Int) (_ : Nat) : Option (List Int × Unit) := (nodeF st L n).map fun nd => (nd.r, ())
/-- the memory that it reads -/
def StN (fb xq : Nat) (st : Int) (L : List Ndv) (w : World) (G : Nat → Prop) (_ : Unit) : Prop :=
  ∃ H, Fo w fb H st L ∧ (∀ k, H k → G k) ∧ Blk w xq 101 #[.pointer (some ⟨fb, 0, none⟩)] ∧ G xq ∧ ∀ k, G k → k < w.heap.size
theorem Fo.st2 {w : World} {fb : Nat} {G : Nat → Prop} {st : Int} {L : List Ndv} (h : Fo w fb G st L) : w.cell? ⟨fb, 0, none⟩ = some (.int .i64 st) ∧ fb < w.heap.size ∧ 2 ≤ st ∧ st ≤ 8 ∧ (∀ n ∈ L, Nd8 n) ∧ G fb ∧ (∀ k, G k → k < w.heap.size) ∧ st + (L.length : Int) ≤ 2147483647 := by
  obtain ⟨A, c, mb, h1, h2, h3, h4, h5, h6, h7, h8, h9, h10, h11⟩ := h
  exact ⟨h1.three.1, h1.lt, h8, h9, h10, h4, h7, h11⟩
theorem nodeF_mem {st : Int} {L : List Ndv} {n : Int} {nd : Ndv} (h : nodeF st L n = some nd) : nd ∈ L := by
  unfold nodeF at h
  split at h
  · exact List.mem_of_getElem? h
  · cases h
theorem Blk.set8 {w : World} {g : Nat} {t : TypeId} {a0 a1 a2 a3 a4 a5 a6 a7 b0 b1 b2 b3 b4 b5 b6 b7 : Value} (h : Blk w g t #[a0, a1, a2, a3, a4, a5, a6, a7]) :
    Blk ((((((((w.setCell ⟨g, 0, none⟩ b0).setCell ⟨g, 1, none⟩ b1).setCell ⟨g, 2, none⟩ b2).setCell ⟨g, 3, none⟩ b3).setCell ⟨g, 4, none⟩ b4).setCell ⟨g, 5, none⟩ b5).setCell ⟨g, 6, none⟩ b6).setCell ⟨g, 7, none⟩ b7) g t #[b0, b1, b2, b3, b4, b5, b6, b7] ∧
    ∀ B, B ≤ g → Below B w ((((((((w.setCell ⟨g, 0, none⟩ b0).setCell ⟨g, 1, none⟩ b1).setCell ⟨g, 2, none⟩ b2).setCell ⟨g, 3, none⟩ b3).setCell ⟨g, 4, none⟩ b4).setCell ⟨g, 5, none⟩ b5).setCell ⟨g, 6, none⟩ b6).setCell ⟨g, 7, none⟩ b7) := by
  refine ⟨by simpa using (((((((h.set_ 0 b0).set_ 1 b1).set_ 2 b2).set_ 3 b3).set_ 4 b4).set_ 5 b5).set_ 6 b6).set_ 7 b7, fun B hB => ?_⟩
  exact ((((((((Below.refl B w).setCell hB _).setCell hB _).setCell hB _).setCell hB _).setCell hB _).setCell hB _).setCell hB _).setCell hB _
theorem Blk.eight8 {w : World} {g : Nat} {t : TypeId} {a b c d e f x y : Value} (h : Blk w g t #[a, b, c, d, e, f, x, y]) : w.cell? ⟨g, 0, none⟩ = some a ∧ w.cell? ⟨g, 1, none⟩ = some b ∧ w.cell? ⟨g, 2, none⟩ = some c ∧ w.cell? ⟨g, 3, none⟩ = some d ∧ w.cell? ⟨g, 4, none⟩ = some e ∧ w.cell? ⟨g, 5, none⟩ = some f ∧ w.cell? ⟨g, 6, none⟩ = some x ∧ w.cell? ⟨g, 7, none⟩ = some y :=
  ⟨by rw [h.cell]; rfl, by rw [h.cell]; rfl, by rw [h.cell]; rfl, by rw [h.cell]; rfl, by rw [h.cell]; rfl, by rw [h.cell]; rfl, by rw [h.cell]; rfl, by rw [h.cell]; rfl⟩
set_option maxRecDepth 100000 in
theorem nof1_any {w : World} {fb xq : Nat} {G : Nat → Prop} {st : Int} {L : List Ndv} {n : Int} {l : Nat} {nd : Ndv} (h : StN fb xq st L w G ()) (hk : nodeF st L n = some nd) :
    Calls Tryz.prog 85 #[.int .i32 n, .int .i64 (l : Int), .pointer (some ⟨xq, 0, none⟩)] w fun e w' => e = .returned (rowV nd.r) ∧ Below w.heap.size w w' := by
  obtain ⟨H, hf, hHG, hb, hx, hG⟩ := h
  have hR8 := (hf.st2.2.2.2.2.1 nd (nodeF_mem hk)).2.2
  have C := Lib.hid (node_any (hf.below ((Below.refl w.heap.size w).alloc (Nat.le_refl _) (.cells #[.int .i32 0, .int .i32 0, .int .i32 0, .int .i32 0, .int .i32 0, .int .i32 0, .int .i32 0, .int .i32 0] 132))) hk)
  obtain ⟨k0, k1, k2⟩ := (hb.alloc (.cells #[.int .i32 0, .int .i32 0, .int .i32 0, .int .i32 0, .int .i32 0, .int .i32 0, .int .i32 0, .int .i32 0] 132)).one
  obtain ⟨lv, rr⟩ := nd
  obtain ⟨x1, x2, x3, x4, x5, x6, x7, x8, rfl⟩ := oct hR8.1
  have B1 := Lib.hid ((Below.refl w.heap.size w).alloc (Nat.le_refl _) (.cells #[.int .i32 0, .int .i32 0, .int .i32 0, .int .i32 0, .int .i32 0, .int .i32 0, .int .i32 0, .int .i32 0] 132))
  have K1 := Lib.hid (Blk.new w 132 #[.int .i32 0, .int .i32 0, .int .i32 0, .int .i32 0, .int .i32 0, .int .i32 0, .int .i32 0, .int .i32 0])
  have hfl : ∀ (w : World), (Instr.field 134 (.agg #[.int .i64 lv, .int .i32 x1, .int .i32 x2, .int .i32 x3, .int .i32 x4, .int .i32 x5, .int .i32 x6, .int .i32 x7, .int .i32 x8]) 1).run Tryz.prog w = .ok (.agg #[.int .i32 x1, .int .i32 x2, .int .i32 x3, .int .i32 x4, .int .i32 x5, .int .i32 x6, .int .i32 x7, .int .i32 x8]) w := fun w => by kernel_rfl
  rw [nodV_eight] at C
  rw [rowV_eight]
  clear hf hb hk hR8
  go_enter Tryz.func85, Tryz.ntmps85
  go_wp2_with (go_at_call 86; (with_reducible refine (C.out).mono ?_); rintro e w2 ⟨rfl, hb2⟩; have B2 := Lib.hid (B1.out.trans (hb2.mono B1.out.size)); have K2 := K1.out.below hb2 K1.out.lt; have z0 := K2.cell 0; have z1 := K2.cell 1; have z2 := K2.cell 2; have z3 := K2.cell 3; have z4 := K2.cell 4; have z5 := K2.cell 5; have z6 := K2.cell 6; have z7 := K2.cell 7; have q0 := K2.frozen 0; have q1 := K2.frozen 1; have q2 := K2.frozen 2; have q3 := K2.frozen 3; have q4 := K2.frozen 4; have q5 := K2.frozen 5; have q6 := K2.frozen 6; have q7 := K2.frozen 7; have KK := Lib.hid K2; clear K2)
  obtain ⟨KF, BF⟩ := KK.out.set8 (b0 := .int .i32 x1) (b1 := .int .i32 x2) (b2 := .int .i32 x3) (b3 := .int .i32 x4) (b4 := .int .i32 x5) (b5 := .int .i32 x6) (b6 := .int .i32 x7) (b7 := .int .i32 x8)
  obtain ⟨y0, y1, y2, y3, y4, y5, y6, y7⟩ := KF.eight8
  exact bodyPost_ret (v := .agg #[.int .i32 x1, .int .i32 x2, .int .i32 x3, .int .i32 x4, .int .i32 x5, .int .i32 x6, .int .i32 x7, .int .i32 x8]) (by simp [results, Tryz.results85, go_sem, y0, y1, y2, y3, y4, y5, y6, y7]) rfl ⟨rfl, B2.out.trans (BF _ (Nat.le_refl _))⟩
theorem StN.els {sn : Nat} {fb xq lm : Nat} {L : List Ndv} (b : WB) (hb : b.fb = fb) : Els sn (StN fb xq (sn : Int) L) (elN (sn : Int) L) b lm 85 #[.pointer (some ⟨xq, 0, none⟩)] where
  keep := fun ⟨H, hf, hHG, hx, hxG, hG⟩ hF hd => ⟨H, hf.keep hF (fun k hk => hd k (hHG k hk)), hHG, hF.blk hx (hd _ hxG), hxG, fun k hk => Nat.lt_of_lt_of_le (hG k hk) hF.size⟩
  lt := fun ⟨H, hf, hHG, hx, hxG, hG⟩ => hG
  sts := fun ⟨H, hf, hHG, hx, hxG, hG⟩ => by rw [hb]; exact ⟨hf.st2.1, hf.st2.2.1⟩
  call := fun w G s s' n l r h1 h2 _ hS he => by
    unfold elN at he
    cases hk : nodeF (sn : Int) L n with
    | none => rw [hk] at he; cases he
    | some nd =>
      rw [hk] at he
      simp only [Option.map_some, Option.some.injEq, Prod.mk.injEq] at he
      obtain ⟨rfl, _⟩ := he
      obtain ⟨H, hf, hHG, hx, hxG, hG⟩ := id hS
      refine ⟨(hf.st2.2.2.2.2.1 nd (nodeF_mem hk)).2.2, (nof1_any (l := l) hS hk).mono fun e w' ⟨e1, e2⟩ => ⟨G, e1, ?_, Fr.of_below e2⟩⟩
      exact ⟨H, hf.below e2, hHG, (Fr.of_below (G := fun _ => False) e2).blk hx (fun h => h), hxG, fun k hk => Nat.lt_of_lt_of_le (hG k hk) e2.size⟩
set_option maxRecDepth 100000 in
/-- the nodes of the reduced tree -/
theorem nodesOf_anyR {w : World} {fb sn lm l : Nat} {G : Nat → Prop} {L : List Ndv} {n r : Int} {S' : Wk Unit} (hf : Fo w fb G (sn : Int) L) (hl : l ≤ lm) (hlm : lm ≤ 100) (hn : I32 n) (hv : visitF sn (elN (sn : Int) L) l n ⟨(), [], []⟩ = some (r, S')) :
    Calls Tryz.prog 61 #[.pointer (some ⟨fb, 0, none⟩), .int .i32 n, .int .i64 (l : Int)] w fun e w' =>
      ∃ A c G', e = .returned (.slice A S'.out.length c) ∧ NL w' w.heap.size A c S'.out ∧ Fr G w G' w' := by
  obtain ⟨_, _, s1, s2, _, _, hG, _⟩ := hf.st2
  have hS : StN fb w.heap.size (sn : Int) L (w.alloc (.cells #[.pointer (some ⟨fb, 0, none⟩)] 101)) (fun k => G k ∨ k = w.heap.size) () :=
    ⟨G, hf.below ((Below.refl _ _).alloc (Nat.le_refl _) _), fun k hk => .inl hk, Blk.new w _ _, .inr rfl, fun k hk => by
      rcases hk with hk | hk
      · have := hG k hk; simp; omega
      · simp; omega⟩
  have C := Lib.hid (walk_any (cb := #[.pointer (some ⟨w.heap.size, 0, none⟩)]) hlm (by omega) (by omega) (fun xf xn xp xe xv mb bs => StN.els (lm := lm) _ rfl) (enters_of Tryz.func85 (by kernel_rfl) rfl) hl hn hv hS)
  obtain ⟨k0, k1, k2⟩ := (Blk.new w 101 #[.pointer (some ⟨fb, 0, none⟩)]).one
  have F1 := Lib.hid (Fr.alloc G w (.cells #[.pointer (some ⟨fb, 0, none⟩)] 101))
  clear hf hv hS hG
  go_enter Tryz.func61, Tryz.ntmps61
  go_wp2_with (go_at_call 84; (with_reducible refine (C.out).mono ?_); rintro e w2 ⟨A, c, G', rfl, hnr, _, hF⟩; have HN := Lib.hid hnr; have HF := Lib.hid hF; clear hnr hF)
  go_ret
  refine ⟨A, c, G', rfl, HN.out.low (by simp), ⟨HF.out.os.trans F1.out.os, HF.out.tape.trans F1.out.tape, HF.out.output.trans F1.out.output, Nat.le_trans F1.out.size HF.out.size, fun k hk hG => ?_, fun k hk => ?_⟩⟩
  · rw [HF.out.block k (by simp; omega) (fun h => h.elim hG (by omega))]
    exact F1.out.block k hk hG
  · rcases HF.out.new k hk with (h | h) | h
    · exact .inl h
    · exact .inr (by omega)
    · exact .inr (by simp at h; omega)
end Go.Proofs.YtcgkkppidkkjiaaGreatDoor
namespace Go.Proofs.YtcgkkppidkkjiaaGreatDoor
open Go.RowKit
section
variable {sn fb kb : Nat} {w w' : World} {G : Nat → Prop} {s : List Ndv × Mem}
theorem Exs.forest (h : Exs sn fb kb w G s) : ∃ H, Fo w fb H (sn : Int) s.1 ∧ ∀ w' H' L', Fo w' fb H' (sn : Int) L' → Fr H w H' w' → Exs sn fb kb w' (fun k => G k ∨ H' k) (L', s.2) ∧ Fr G w (fun k => G k ∨ H' k) w' := by
  obtain ⟨H, hf, hHG, hm, hG1, hG2, hR⟩ := h
  refine ⟨H, hf, fun w' H' L' hf' hF => ⟨⟨H', hf', fun k hk => ⟨.inr hk, ?_⟩, hF.map hm (fun hk => (hHG _ hk).2 rfl), .inl hG1, fun k hk => ?_, hR⟩, hF.weak (fun k hk => (hHG k hk).1) (fun k hk => hk.elim .inl (fun hk => ?_))⟩⟩
  · rcases hF.new k hk with h | h
    · exact (hHG k h).2
    · have := hG2 _ hG1; omega
  · rcases hk with hk | hk
    · exact Nat.lt_of_lt_of_le (hG2 k hk) hF.size
    · exact hf'.st2.2.2.2.2.2.2.1 k hk
  · rcases hF.new k hk with h | h
    · exact .inl (hHG k h).1
    · exact .inr h
end
end Go.Proofs.YtcgkkppidkkjiaaGreatDoor
