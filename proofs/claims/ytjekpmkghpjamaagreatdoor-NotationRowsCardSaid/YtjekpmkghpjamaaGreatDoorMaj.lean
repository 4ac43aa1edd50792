/- The walk of walk, around its visits. -/
/- The walk of examine, its easy ways. -/
import Derived.Test.YtjekpmkghpjamaaGreatDoorMab
import Derived.Test.YtjekpmkghpjamaaGreatDoorMag
import Derived.Test.YtjekpmkghpjamaaGreatDoorMae
import Derived.Test.YtjekpmkghpjamaaGreatDoorMaa
import Derived.Test.YtjekpmkghpjamaaGreatDoorMad
import Derived.Test.YtjekpmkghpjamaaGreatDoorMac
import Derived.Test.YtjekpmkghpjamaaGreatDoorMah
import Derived.Test.YtjekpmkghpjamaaGreatDoorMai
import Derived.Below
import Derived.BigQuiet
import Derived.Carry
import Derived.Deep.AppendLies
import Derived.Deep.CutRange
import Derived.Deep.Draws
import Derived.Deep.QuietTactic
import Derived.Deep.RegionHeldLaw
import Derived.Deep.RegionLaw
import Derived.DeepKeys4
import Derived.IntWalk
import Derived.Laws.OwnMore
import Derived.Laws.Rows
import Derived.Lib.Hide
import Derived.LoopN
import Derived.Maps.OwnOps
import Derived.OwnWalk
import Derived.Shelf.Abstract
import Derived.Sort.Statements
import Derived.StillTail
import Derived.StillTailTactics
import Derived.Test.YtjekpmkghpjamaaGreatDoorRows
import Derived.WalkKit
import Derived.Test.YtjekpmkghpjamaaGreatDoorMaf
import Derived.Laws.MakeOwn
namespace Go.Proofs.YtjekpmkghpjamaaGreatDoor
open Go.RowKit
/-- a list of finished nodes, all of it at base or behind -/
def NL (w : World) (base : Nat) (A : Option Addr) (c : Nat) (out : List (Int × List Int)) : Prop :=
  ∃ xs, w.ownsRow base 101 2 (.slice A out.length c) out.length xs ∧ Inn w (fun k => k < base) xs out.length (lvO out) (nxO out)
theorem NL.nr {w : World} {base : Nat} {A : Option Addr} {c : Nat} {out : List (Int × List Int)} (h : NL w base A c out) : NR w w.heap.size A out.length (lvO out) (nxO out) := fun hj => by
  obtain ⟨xs, h1, h2⟩ := h
  obtain ⟨g, cap, hv1, _, _⟩ := h1.form hj
  injection hv1 with hv1 hv2 hv3
  subst hv1 hv3
  exact NR.of_own h1 h2 hj
theorem NL.keep {w w' : World} {base : Nat} {A : Option Addr} {c : Nat} {out : List (Int × List Int)} {H H' : Nat → Prop} (h : NL w base A c out) (hf : Fr H w H' w') (hd : ∀ k, H k → k < base) : NL w' base A c out := by
  obtain ⟨xs, h1, h2⟩ := h
  exact ⟨xs, hf.row h1 (fun g hg hH => by have := (h1.lt g hg).1; have := hd g hH; omega), h2.far hf.size (fun k hk hn => hf.block k hk (fun hH => hn (hd k hH))) (fun k _ hk => hk)⟩
theorem NL.low {w : World} {base base' : Nat} {A : Option Addr} {c : Nat} {out : List (Int × List Int)} (h : NL w base A c out) (hb : base' ≤ base) : NL w base' A c out := by
  obtain ⟨xs, h1, h2⟩ := h
  exact ⟨xs, own_base h1 hb, h2.sub fun k _ hk => Nat.lt_of_lt_of_le hk hb⟩
theorem run_store_fn {P : Program} {w : World} {a : Addr} {m : Mode} (f : Fn) (ts cb : Array Value) : (store a (.func f ts cb) m).run P w = stored P w a (.func f ts cb) m := run_store P w a _ m rfl
attribute [local go_sem] run_store_fn
set_option maxRecDepth 100000 in
set_option maxHeartbeats 4000000 in
theorem walk_any {σ : Type} {sn lm : Nat} {St : World → (Nat → Prop) → σ → Prop} {el : σ → Int → Nat → Option (List Int × σ)} {fb : Nat} {gE : FuncId} {cb : Array Value} {w : World} {G : Nat → Prop} {s : σ} {l : Nat} {n r : Int} {S' : Wk σ}
    (hlm : lm ≤ 100) (hs1 : 2 ≤ sn) (hs2 : sn ≤ 8) (E : ∀ xf xn xp xe xv mb bs, Els sn St el ⟨xf, xn, xp, xe, xv, mb, fb, .func (.func gE) #[] cb, visV xf xn xp xe xv, bs⟩ lm gE cb) (eg : ∀ args w, (callFunc gE args).run Tryz.prog w = .ok (.enter gE args) w)
    (hl : l ≤ lm) (hn : I32 n) (hv : visitF sn el l n ⟨s, [], []⟩ = some (r, S')) (h : St w G s) :
    Calls Tryz.prog 103 #[.pointer (some ⟨fb, 0, none⟩), .int .i32 n, .int .i64 (l : Int), .func (.func gE) #[] cb] w fun e w' =>
      ∃ A c G', e = .returned (.slice A S'.out.length c) ∧ NL w' w.heap.size A c S'.out ∧ St w' G' S'.s ∧ Fr G w G' w' := by
  have E0 := E 0 0 0 0 0 0 0
  have hlt := E0.lt h
  obtain ⟨w5, hw5⟩ : ∃ w5, w5 = ((((w.alloc (.cells #[.pointer (some ⟨fb, 0, none⟩)] 105)).alloc (.cells #[.func (.func gE) #[] cb] 152)).alloc (.cells #[.slice none 0 0] 23)).alloc (.map #[] 0)).alloc (.cells #[.map (some (w.heap.size + 1 + 1 + 1))] 208) := ⟨_, rfl⟩
  have hs5 : w5.heap.size = w.heap.size + 1 + 1 + 1 + 1 + 1 := by rw [hw5]; simp
  have c5 := (Blk.new w5 209 #[.nilFunc]).one
  rw [hs5, hw5] at c5
  obtain ⟨c50, c51, c52⟩ := c5
  have K1 := Blk.new w 105 #[.pointer (some ⟨fb, 0, none⟩)]
  have K2 := Blk.new (w.alloc (.cells #[.pointer (some ⟨fb, 0, none⟩)] 105)) 152 #[.func (.func gE) #[] cb]
  have K3 := Blk.new ((w.alloc (.cells #[.pointer (some ⟨fb, 0, none⟩)] 105)).alloc (.cells #[.func (.func gE) #[] cb] 152)) 23 #[.slice none 0 0]
  have K4 := MapOf.new Tryz.prog (((w.alloc (.cells #[.pointer (some ⟨fb, 0, none⟩)] 105)).alloc (.cells #[.func (.func gE) #[] cb] 152)).alloc (.cells #[.slice none 0 0] 23)) 21 (α := Int) (β := Int) (fun x => .int .i32 x) (fun x => .int .i64 x)
  have K5 := Blk.new ((((w.alloc (.cells #[.pointer (some ⟨fb, 0, none⟩)] 105)).alloc (.cells #[.func (.func gE) #[] cb] 152)).alloc (.cells #[.slice none 0 0] 23)).alloc (.map #[] 0)) 208 #[.map (some (w.heap.size + 1 + 1 + 1))]
  have K6 := Blk.new w5 209 #[visV (w.heap.size + 1 + 1 + 1 + 1) (w.heap.size + 1 + 1) w.heap.size (w.heap.size + 1) (w.heap.size + 1 + 1 + 1 + 1 + 1)]
  have B6 : Below w.heap.size w (w5.alloc (.cells #[visV (w.heap.size + 1 + 1 + 1 + 1) (w.heap.size + 1 + 1) w.heap.size (w.heap.size + 1) (w.heap.size + 1 + 1 + 1 + 1 + 1)] 209)) := by
    rw [hw5]
    exact ((((((Below.refl _ _).alloc (Nat.le_refl _) _).alloc (by simp) _).alloc (by simp; omega) _).alloc (by simp; omega) _).alloc (by simp; omega) _).alloc (by simp; omega) _
  simp only [World.size_alloc] at K2 K3 K4 K5
  rw [hs5] at K6
  have hW : Wst (sn : Int) St ⟨w.heap.size + 1 + 1 + 1 + 1, w.heap.size + 1 + 1, w.heap.size, w.heap.size + 1, w.heap.size + 1 + 1 + 1 + 1 + 1, w.heap.size + 1 + 1 + 1, fb, .func (.func gE) #[] cb, visV (w.heap.size + 1 + 1 + 1 + 1) (w.heap.size + 1 + 1) w.heap.size (w.heap.size + 1) (w.heap.size + 1 + 1 + 1 + 1 + 1), w.heap.size⟩
      (w5.alloc (.cells #[visV (w.heap.size + 1 + 1 + 1 + 1) (w.heap.size + 1 + 1) w.heap.size (w.heap.size + 1) (w.heap.size + 1 + 1 + 1 + 1 + 1)] 209)) (fun k => (k = w.heap.size + 1 + 1 ∨ k = w.heap.size + 1 + 1 + 1) ∨ G k) (fun k => k < w.heap.size + 6) ⟨s, [], []⟩ := by
    have hsz : (w5.alloc (.cells #[visV (w.heap.size + 1 + 1 + 1 + 1) (w.heap.size + 1 + 1) w.heap.size (w.heap.size + 1) (w.heap.size + 1 + 1 + 1 + 1 + 1)] 209)).heap.size = w.heap.size + 6 := by rw [World.size_alloc, hs5]
    refine ⟨?_, ?_, ?_, K6, ?_, ?_, ?_, by rw [hsz]; show w.heap.size ≤ _; omega, ?_, .inl (.inr rfl), .inl (.inl rfl), G, none, 0, [], E0.keep h (Fr.of_below (G := fun _ => False) B6) (fun _ _ h => h), ?_, ?_, World.ownsRow_nil _ _ _ _, ?_, ?_⟩
    · rw [hw5]; exact K5.alloc _
    · rw [hw5]; exact ((((K1.alloc _).alloc _).alloc _).alloc _).alloc _
    · rw [hw5]; exact (((K2.alloc _).alloc _).alloc _).alloc _
    · intro k hk hT
      rcases hk with rfl | rfl | rfl | rfl <;> rcases hT with (hT | hT) | hT <;> first | (simp only at hT; omega) | (have := hlt _ hT; simp only at this; omega)
    · intro k hk
      rcases hk with (hk | hk) | hk
      · omega
      · omega
      · have := hlt _ hk; omega
    · intro k hk
      rw [hsz]
      exact hk
    · rw [hw5]
      exact (K4.of_block ((Below.heap_alloc _ _ _ (by simp)))).of_block (Below.heap_alloc _ _ _ (by simp))
    · intro k hk
      have := hlt k hk
      exact ⟨.inr hk, by simp only; omega, by simp only; omega, by simp [Value.ownBlock]⟩
    · rw [hw5]; exact (((K3.alloc _).alloc _).alloc _)
    · intro g hg; simp [Value.ownBlock] at hg
    · intro k hk; exact absurd hk (by simp)
  have V := Lib.hid (visit_any hlm hs1 hs2 (E _ _ _ _ _ _ _) eg l hl n r ⟨s, [], []⟩ S' _ _ _ hn hv hW)
  have HB6 := Lib.hid B6
  have HLT := Lib.hid hlt
  have HE := Lib.hid E0
  have HS5 := Lib.hid hs5
  rw [hw5] at V HB6 HS5
  clear K1 K2 K3 K4 K5 K6 hW B6 hlt E0 E h hv hw5 hs5
  have hmm := @run_makeMap Tryz.prog
  go_enter Tryz.func103, Tryz.ntmps103
  go_wp2_with ((with_reducible refine (V.out).mono ?_); rintro e w' ⟨T', rfl, hW', hF'⟩; have HW' := Lib.hid hW'; have HF' := Lib.hid hF'; clear hW' hF'; obtain ⟨G', A, c, xs, a1, a2, a3, a4, a5, a6⟩ := HW'.out.rest; obtain ⟨y0, y1, y2⟩ := a3.one; have A1 := Lib.hid a1; have A2 := Lib.hid a2; have A4 := Lib.hid a4; have A6 := Lib.hid a6; clear a1 a2 a3 a4 a5 a6)
  go_ret
  have hs6 := HB6.out.size
  refine ⟨A, c, G', rfl, ⟨xs, A4.out, A6.out.sub fun k _ hk => .inl (by omega)⟩, A1.out, ?_⟩
  · have hF := (Fr.of_below (G := G) HB6.out)
    have hN := HF'.out.new
    refine ⟨HF'.out.os.trans hF.os, HF'.out.tape.trans hF.tape, HF'.out.output.trans hF.output, Nat.le_trans hF.size HF'.out.size, fun k hk hG => ?_, fun k hk => ?_⟩
    · rw [HF'.out.block k (by simp; omega) (fun h => by
        rcases h with (h | h) | h
        · omega
        · omega
        · exact hG h)]
      exact HB6.out.block k hk
    · rcases hN k (A2.out k hk).1 with ((h | h) | h) | h
      · exact .inr (by omega)
      · exact .inr (by omega)
      · exact .inl h
      · exact .inr (Nat.le_trans hs6 h)
end Go.Proofs.YtjekpmkghpjamaaGreatDoor
namespace Go.Proofs.YtjekpmkghpjamaaGreatDoor
open Go.RowKit
abbrev Mem := List (Int × List Int)
/-- a node of the columns -/
def colN (lv : Int) (rows : List (List Int)) (j : Nat) : Ndv := ⟨lv, (rows.map fun r => ig r j) ++ List.replicate (8 - rows.length) 0⟩
/-- the numbers for each state of a position -/
def examF (sn : Nat) (p : Int) : Nat → Int → List Ndv × Mem → Option (List Int × (List Ndv × Mem))
  | 0, _, _ => none
  | f + 1, n, s => (nodeF (sn : Int) s.1 n).bind fun nd => if nd.lv = p then some (nd.r, s) else
    match s.2.lookup n with
    | some R => some (R, s)
    | none => (rowF (examF sn p f) (nd.r.take sn) s).bind fun (rows, s1) => (rowF (fun (j : Nat) L => addF (sn : Int) L (colN nd.lv rows j)) (List.range sn) s1.1).bind fun (res, L2) =>
      some (res ++ List.replicate (8 - sn) 0, (L2, (n, res ++ List.replicate (8 - sn) 0) :: s1.2))
/-- the forest and what is known already -/
def Exs (sn : Nat) (fb kb : Nat) (w : World) (G : Nat → Prop) (s : List Ndv × Mem) : Prop :=
  ∃ H, Fo w fb H (sn : Int) s.1 ∧ (∀ k, H k → G k ∧ k ≠ kb) ∧ MapOf Tryz.prog w 21 kb (fun x => .int .i32 x) rowV (fun n => s.2.lookup n) ∧ G kb ∧ (∀ k, G k → k < w.heap.size) ∧ ∀ n R, s.2.lookup n = some R → R8 R
section
variable {sn fb kb : Nat} {w w' : World} {G H H' : Nat → Prop} {s : List Ndv × Mem}
theorem Exs.keep (h : Exs sn fb kb w G s) (hf : Fr H w H' w') (hd : ∀ k, G k → ¬ H k) : Exs sn fb kb w' G s := by
  obtain ⟨H1, h1, h2, h3, h4, h5, h6⟩ := h
  exact ⟨H1, h1.keep hf (fun k hk => hd k (h2 k hk).1), h2, hf.map h3 (hd _ h4), h4, fun k hk => Nat.lt_of_lt_of_le (h5 k hk) hf.size, h6⟩
theorem Exs.below (h : Exs sn fb kb w G s) (hb : Below w.heap.size w w') : Exs sn fb kb w' G s := h.keep (Fr.of_below (G := fun _ => False) hb) (fun _ _ h => h)
theorem Exs.lt (h : Exs sn fb kb w G s) : ∀ k, G k → k < w.heap.size := by
  obtain ⟨H1, h1, h2, h3, h4, h5, h6⟩ := h
  exact h5
/-- what an examination promises -/
def ExOut (sn fb kb : Nat) (w : World) (G : Nat → Prop) (r : List Int) (s' : List Ndv × Mem) (e : Ending) (w' : World) : Prop :=
  ∃ G', e = .returned (rowV r) ∧ R8 r ∧ Exs sn fb kb w' G' s' ∧ Fr G w G' w'
theorem zero_row (w : World) : (zeroValue 150).run Tryz.prog w = .ok (rowV [0, 0, 0, 0, 0, 0, 0, 0]) w := by kernel_rfl
theorem mem_look {mm : Mem} (hm : MapOf Tryz.prog w 21 kb (fun x => .int .i32 x) rowV (fun n => mm.lookup n)) {n : Int} (hn : I32 n) :
    (Instr.lookup 147 (.map (some kb)) (.int .i32 n) true).run Tryz.prog w = .ok (match mm.lookup n with | some v => .tuple #[rowV v, .bool true] | none => .tuple #[rowV [0, 0, 0, 0, 0, 0, 0, 0], .bool false]) w := by
  rw [hm.look true Tryz.keyI32 Tryz.underlying147 (zero_row w) (key_i32 hn.1 hn.2) (fun y _ _ e => i32V_inj e)]
  cases mm.lookup n <;> rfl
set_option maxRecDepth 100000 in
set_option maxHeartbeats 4000000 in
theorem exam_hit {n p : Int} {nd : Ndv} (h : Exs sn fb kb w G s) (hk : nodeF (sn : Int) s.1 n = some nd) (hp : nd.lv = p) :
    Calls Tryz.prog 105 #[.pointer (some ⟨fb, 0, none⟩), .int .i32 n, .int .i64 p, .map (some kb)] w fun e w' => ExOut sn fb kb w G nd.r s e w' := by
  obtain ⟨H, hf, hHG, hm, hG1, hG2, hR⟩ := id h
  have hR8 := (hf.st2.2.2.2.2.1 nd (nodeF_mem hk)).2.2
  have C := Lib.hid (node_any (hf.below ((Below.refl w.heap.size w).alloc (Nat.le_refl _) (.cells #[.int .i32 0, .int .i32 0, .int .i32 0, .int .i32 0, .int .i32 0, .int .i32 0, .int .i32 0, .int .i32 0] 150))) hk)
  have B1 := Lib.hid ((Below.refl w.heap.size w).alloc (Nat.le_refl _) (.cells #[.int .i32 0, .int .i32 0, .int .i32 0, .int .i32 0, .int .i32 0, .int .i32 0, .int .i32 0, .int .i32 0] 150))
  have K1 := Lib.hid (Blk.new w 150 #[.int .i32 0, .int .i32 0, .int .i32 0, .int .i32 0, .int .i32 0, .int .i32 0, .int .i32 0, .int .i32 0])
  have HH := Lib.hid h
  obtain ⟨lv, rr⟩ := nd
  have HR8 := Lib.hid hR8
  obtain ⟨x1, x2, x3, x4, x5, x6, x7, x8, rfl⟩ := oct hR8.1
  simp only at hp
  subst hp
  rw [nodV_eight] at C
  simp only
  clear h hf hm hk hR8 hHG hR
  go_enter Tryz.func105, Tryz.ntmps105
  go_wp2_with (go_at_call 161; (with_reducible refine (C.out).mono ?_); rintro e w2 ⟨rfl, hb2⟩; have B2 := Lib.hid (B1.out.trans (hb2.mono B1.out.size)); have K2 := (K1.out.below hb2 K1.out.lt).alloc (.cells #[.int .i64 lv, .int .i32 x1, .int .i32 x2, .int .i32 x3, .int .i32 x4, .int .i32 x5, .int .i32 x6, .int .i32 x7, .int .i32 x8] 155); have z0 := K2.cell 0; have z1 := K2.cell 1; have z2 := K2.cell 2; have z3 := K2.cell 3; have z4 := K2.cell 4; have z5 := K2.cell 5; have z6 := K2.cell 6; have z7 := K2.cell 7; have q0 := K2.frozen 0; have q1 := K2.frozen 1; have q2 := K2.frozen 2; have q3 := K2.frozen 3; have q4 := K2.frozen 4; have q5 := K2.frozen 5; have q6 := K2.frozen 6; have q7 := K2.frozen 7; have KK := Lib.hid K2; have BB := Lib.hid (B2.out.alloc B2.out.size (.cells #[.int .i64 lv, .int .i32 x1, .int .i32 x2, .int .i32 x3, .int .i32 x4, .int .i32 x5, .int .i32 x6, .int .i32 x7, .int .i32 x8] 155)); clear K2)
  obtain ⟨KF, BF⟩ := KK.out.set8 (b0 := .int .i32 x1) (b1 := .int .i32 x2) (b2 := .int .i32 x3) (b3 := .int .i32 x4) (b4 := .int .i32 x5) (b5 := .int .i32 x6) (b6 := .int .i32 x7) (b7 := .int .i32 x8)
  obtain ⟨y0, y1, y2, y3, y4, y5, y6, y7⟩ := KF.eight8
  have BZ := BB.out.trans (BF _ (Nat.le_refl _))
  exact bodyPost_ret (v := .agg #[.int .i32 x1, .int .i32 x2, .int .i32 x3, .int .i32 x4, .int .i32 x5, .int .i32 x6, .int .i32 x7, .int .i32 x8]) (by simp [results, Tryz.results105, go_sem, y0, y1, y2, y3, y4, y5, y6, y7]) rfl ⟨G, rfl, HR8.out, HH.out.below BZ, Fr.of_below BZ⟩
set_option maxRecDepth 100000 in
set_option maxHeartbeats 4000000 in
theorem exam_memo {n p : Int} {nd : Ndv} {R : List Int} (hn : I32 n) (h : Exs sn fb kb w G s) (hk : nodeF (sn : Int) s.1 n = some nd) (hp : nd.lv ≠ p) (hR : s.2.lookup n = some R) :
    Calls Tryz.prog 105 #[.pointer (some ⟨fb, 0, none⟩), .int .i32 n, .int .i64 p, .map (some kb)] w fun e w' => ExOut sn fb kb w G R s e w' := by
  obtain ⟨H, hf, hHG, hm, hG1, hG2, hRR⟩ := id h
  have hR8 := hRR n R hR
  have hnR := (hf.st2.2.2.2.2.1 nd (nodeF_mem hk)).2.2
  have C := Lib.hid (node_any (hf.below ((Below.refl w.heap.size w).alloc (Nat.le_refl _) (.cells #[.int .i32 0, .int .i32 0, .int .i32 0, .int .i32 0, .int .i32 0, .int .i32 0, .int .i32 0, .int .i32 0] 150))) hk)
  have B1 := Lib.hid ((Below.refl w.heap.size w).alloc (Nat.le_refl _) (.cells #[.int .i32 0, .int .i32 0, .int .i32 0, .int .i32 0, .int .i32 0, .int .i32 0, .int .i32 0, .int .i32 0] 150))
  have K1 := Lib.hid (Blk.new w 150 #[.int .i32 0, .int .i32 0, .int .i32 0, .int .i32 0, .int .i32 0, .int .i32 0, .int .i32 0, .int .i32 0])
  have HH := Lib.hid h
  have HM := Lib.hid hm
  have HN := Lib.hid hn
  have HRR := Lib.hid hR
  obtain ⟨lv, rr⟩ := nd
  have HR8 := Lib.hid hR8
  obtain ⟨v1, v2, v3, v4, v5, v6, v7, v8, rfl⟩ := oct hnR.1
  obtain ⟨x1, x2, x3, x4, x5, x6, x7, x8, rfl⟩ := oct hR8.1
  simp only at hp
  have hd : (lv == p) = false := by simpa using hp
  have hd2 : decide (lv = p) = false := by simpa using hp
  rw [nodV_eight] at C
  clear h hf hm hk hR8 hHG hR hRR hnR hn
  go_enter Tryz.func105, Tryz.ntmps105
  go_wp2_with (go_at_call 161; (with_reducible refine (C.out).mono ?_); rintro e w2 ⟨rfl, hb2⟩; have B2 := Lib.hid (B1.out.trans (hb2.mono B1.out.size)); have K2 := ((K1.out.below hb2 K1.out.lt).alloc (.cells #[.int .i64 lv, .int .i32 v1, .int .i32 v2, .int .i32 v3, .int .i32 v4, .int .i32 v5, .int .i32 v6, .int .i32 v7, .int .i32 v8] 155)).alloc (.cells #[.int .i32 x1, .int .i32 x2, .int .i32 x3, .int .i32 x4, .int .i32 x5, .int .i32 x6, .int .i32 x7, .int .i32 x8] 150); have z0 := K2.cell 0; have z1 := K2.cell 1; have z2 := K2.cell 2; have z3 := K2.cell 3; have z4 := K2.cell 4; have z5 := K2.cell 5; have z6 := K2.cell 6; have z7 := K2.cell 7; have q0 := K2.frozen 0; have q1 := K2.frozen 1; have q2 := K2.frozen 2; have q3 := K2.frozen 3; have q4 := K2.frozen 4; have q5 := K2.frozen 5; have q6 := K2.frozen 6; have q7 := K2.frozen 7; have KK := Lib.hid K2; have BA := B2.out.alloc B2.out.size (.cells #[.int .i64 lv, .int .i32 v1, .int .i32 v2, .int .i32 v3, .int .i32 v4, .int .i32 v5, .int .i32 v6, .int .i32 v7, .int .i32 v8] 155); have BB := Lib.hid (BA.alloc BA.size (.cells #[.int .i32 x1, .int .i32 x2, .int .i32 x3, .int .i32 x4, .int .i32 x5, .int .i32 x6, .int .i32 x7, .int .i32 x8] 150)); have lk := mem_look (HM.out.of_block (BA.block _ HM.out.lt)) HN.out; rw [HRR.out] at lk; simp only [rowV_eight] at lk; clear K2 BA)
  obtain ⟨KF, BF⟩ := KK.out.set8 (b0 := .int .i32 x1) (b1 := .int .i32 x2) (b2 := .int .i32 x3) (b3 := .int .i32 x4) (b4 := .int .i32 x5) (b5 := .int .i32 x6) (b6 := .int .i32 x7) (b7 := .int .i32 x8)
  obtain ⟨y0, y1, y2, y3, y4, y5, y6, y7⟩ := KF.eight8
  have BZ := BB.out.trans (BF _ (Nat.le_refl _))
  exact bodyPost_ret (v := .agg #[.int .i32 x1, .int .i32 x2, .int .i32 x3, .int .i32 x4, .int .i32 x5, .int .i32 x6, .int .i32 x7, .int .i32 x8]) (by simp [results, Tryz.results105, go_sem, y0, y1, y2, y3, y4, y5, y6, y7]) rfl ⟨G, rfl, HR8.out, HH.out.below BZ, Fr.of_below BZ⟩
end
end Go.Proofs.YtjekpmkghpjamaaGreatDoor
