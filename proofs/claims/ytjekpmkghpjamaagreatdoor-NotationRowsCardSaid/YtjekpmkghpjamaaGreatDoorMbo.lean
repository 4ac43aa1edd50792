/- The memory of the walk that makes the tree of an elementary rule. -/
/- The walk of totaltree's add. -/
/- The walk of totaltree's visit at an elementary rule: what it promises, and its easy ways. -/
import Derived.Test.YtjekpmkghpjamaaGreatDoorMbn
import Derived.Test.YtjekpmkghpjamaaGreatDoorMbl
namespace Go.Proofs.YtjekpmkghpjamaaGreatDoor
open Go.RowKit

/-- what a list of states adds to the sum, by the weights of the levels -/
def wn (wt : Nat → Nat) : List Int → Nat
  | [] => 0
  | x :: q => x.toNat * wt (q.length + 1) + wn wt q
/-- the greatest sum of the lower levels -/
def ws (wt : Nat → Nat) : Nat → Nat
  | 0 => 0
  | l + 1 => wt (l + 1) + ws wt l
/-- the blocks of the walk, its weights and new states -/
structure TP where
  xN : Nat
  xo : Nat
  xS : Nat
  xF : Nat
  xM : Nat
  xR : Nat
  xL : Nat
  xA : Nat
  xV : Nat
  gc : Nat
  gp : Nat
  gx : Nat
  mN : Nat
  mV : Nat
  bs : Nat
  AH : Option Addr
  cH : Nat
  AI : Option Addr
  cI : Nat
  nl : Nat
  S : Nat
  wt : Nat → Nat
  rb : Nat → Int
  w0 : World
def TP.K (p : TP) (k : Nat) : Prop := k = p.xN ∨ k = p.xS ∨ k = p.xF ∨ k = p.xM ∨ k = p.xR ∨ k = p.xL ∨ k = p.xA ∨ k = p.xV ∨ k < p.w0.heap.size
/-- what the closures promise -/
structure TQ (w0 : World) (gc gp gx nl S : Nat) (wt : Nat → Nat) (rb : Nat → Int) : Prop where
  hb : ∀ s, s ≤ S → 0 ≤ rb s ∧ rb s < 2
  hn : 1 ≤ nl ∧ nl ≤ 9
  hS : S ≤ 1000
  hw : ∀ l, 1 ≤ l → l ≤ nl → wt l ≤ 9
  hA : ∀ (W : World) (l s : Nat), Below w0.heap.size w0 W → 1 ≤ l → l ≤ nl → s < 2 → Calls Tryz.prog 65 #[.int .i64 ((nl : Int) - (l : Int)), .int .i64 (s : Int), .pointer (some ⟨gc, 0, none⟩), .pointer (some ⟨gp, 0, none⟩)] W fun e w' => e = .returned (.int .i64 ((s * wt l : Nat) : Int)) ∧ w' = W
  hR : ∀ (W : World) (s : Nat), Below w0.heap.size w0 W → s ≤ S → Calls Tryz.prog 67 #[.int .i64 (s : Int), .pointer (some ⟨gx, 0, none⟩), .pointer (some ⟨gp, 0, none⟩)] W fun e w' => e = .returned (.int .i64 (rb s)) ∧ Below W.heap.size W w'
def fnVisitT (p : TP) : Value := .func (.func 119) #[] #[.pointer (some ⟨p.xR, 0, none⟩), .pointer (some ⟨p.xV, 0, none⟩), .pointer (some ⟨p.xS, 0, none⟩), .pointer (some ⟨p.xF, 0, none⟩), .pointer (some ⟨p.xM, 0, none⟩), .pointer (some ⟨p.xL, 0, none⟩), .pointer (some ⟨p.xA, 0, none⟩)]
def fnAddT (p : TP) : Value := .func (.func 117) #[] #[.pointer (some ⟨p.xN, 0, none⟩), .pointer (some ⟨p.xo, 0, none⟩), .pointer (some ⟨p.xS, 0, none⟩)]
def fnAmountT (p : TP) : Value := .func (.func 65) #[] #[.pointer (some ⟨p.gc, 0, none⟩), .pointer (some ⟨p.gp, 0, none⟩)]
def fnResultT (p : TP) : Value := .func (.func 67) #[] #[.pointer (some ⟨p.gx, 0, none⟩), .pointer (some ⟨p.gp, 0, none⟩)]
/-- what the walk never turns -/
structure TC (p : TP) (w : World) : Prop where
  cN : Blk w p.xN 165 #[.map (some p.mN)]
  cS : Blk w p.xS 3 #[.int .i64 2]
  cF : Blk w p.xF 114 #[fnVisitT p]
  cM : Blk w p.xM 114 #[fnAmountT p]
  cR : Blk w p.xR 117 #[fnResultT p]
  cL : Blk w p.xL 22 #[.slice p.AH p.nl p.cH]
  cA : Blk w p.xA 169 #[fnAddT p]
  cV : Blk w p.xV 170 #[.map (some p.mV)]
  cB : Below p.w0.heap.size p.w0 w
  cQ : TQ p.w0 p.gc p.gp p.gx p.nl p.S p.wt p.rb
theorem TC.keep {p : TP} {w w' : World} {H H' : Nat → Prop} (h : TC p w) (hf : Fr H w H' w') (hk : ∀ k, p.K k → ¬ H k) : TC p w' :=
  ⟨hf.blk h.cN (hk _ (.inl rfl)), hf.blk h.cS (hk _ (.inr (.inl rfl))), hf.blk h.cF (hk _ (.inr (.inr (.inl rfl)))), hf.blk h.cM (hk _ (.inr (.inr (.inr (.inl rfl))))), hf.blk h.cR (hk _ (.inr (.inr (.inr (.inr (.inl rfl)))))),
   hf.blk h.cL (hk _ (.inr (.inr (.inr (.inr (.inr (.inl rfl))))))), hf.blk h.cA (hk _ (.inr (.inr (.inr (.inr (.inr (.inr (.inl rfl)))))))), hf.blk h.cV (hk _ (.inr (.inr (.inr (.inr (.inr (.inr (.inr (.inl rfl))))))))),
   h.cB.trans (hf.below (fun k hk' => Nat.le_of_not_lt fun hl => hk k (.inr (.inr (.inr (.inr (.inr (.inr (.inr (.inr hl)))))))) hk') h.cB.size), h.cQ⟩
theorem TC.lt {p : TP} {w : World} (h : TC p w) : ∀ k, p.K k → k < w.heap.size := fun k hk => by
  rcases hk with rfl | rfl | rfl | rfl | rfl | rfl | rfl | rfl | hk
  · exact h.cN.lt
  · exact h.cS.lt
  · exact h.cF.lt
  · exact h.cM.lt
  · exact h.cR.lt
  · exact h.cL.lt
  · exact h.cA.lt
  · exact h.cV.lt
  · exact Nat.lt_of_lt_of_le hk h.cB.size
/-- the memory of the walk: T holds what it turns, U what its nodes' elements don't lie in -/
structure Tsq (p : TP) (w : World) (T U : Nat → Prop) (out : List (Int × List Int)) (N : Int × Int × Int → Option Int) (M : Int × Int → Option Int) : Prop where
  c : TC p w
  cT : ∀ k, p.K k → ¬ T k
  tU : ∀ k, T k → U k
  uL : ∀ k, U k → k < w.heap.size
  bL : p.bs ≤ w.heap.size
  mpN : MapOf Tryz.prog w 167 p.mN nodV2 (fun x => .int .i64 x) N
  mpV : MapOf Tryz.prog w 171 p.mV parV (fun x => .int .i64 x) M
  tN : T p.mN
  tV : T p.mV
  tO : T p.xo
  nv : p.mN ≠ p.mV
  rest : ∃ A c ys, Blk w p.xo 25 #[.int .i64 2, .slice p.AI p.nl p.cI, .slice A out.length c] ∧ w.ownsRow p.bs 101 2 (.slice A out.length c) out.length ys ∧
    (∀ g, (Value.slice A out.length c).ownBlock = some g → T g ∧ g ≠ p.xo ∧ g ≠ p.mN ∧ g ≠ p.mV) ∧ Inn w U ys out.length (lvO out) (nxO out)
section
variable {p : TP} {w w' : World} {T U H H' : Nat → Prop} {out : List (Int × List Int)} {N : Int × Int × Int → Option Int} {M : Int × Int → Option Int}
theorem Tsq.wide {U' : Nat → Prop} (h : Tsq p w T U out N M) (h1 : ∀ k, T k → U' k) (h2 : ∀ k, U' k → U k) : Tsq p w T U' out N M := by
  obtain ⟨A, c, ys, a3, a4, a5, a6⟩ := h.rest
  exact ⟨h.c, h.cT, h1, fun k hk => h.uL k (h2 k hk), h.bL, h.mpN, h.mpV, h.tN, h.tV, h.tO, h.nv, A, c, ys, a3, a4, a5, a6.sub fun k _ hk => h2 k hk⟩
theorem Tsq.here (h : Tsq p w T U out N M) : Tsq p w T (fun k => U k ∨ T k) out N M := h.wide (fun k hk => .inr hk) (fun k hk => hk.elim id (h.tU k))
/-- what turns other blocks, or makes some -/
theorem Tsq.keep (h : Tsq p w T U out N M) (hf : Fr H w H' w') (h1 : ∀ k, T k → ¬ H k) (h2 : ∀ k, p.K k → ¬ H k) (h3 : ∀ k, H k → U k) (U' : Nat → Prop) (h4 : ∀ k, U k → U' k) (h5 : ∀ k, U' k → U k ∨ w.heap.size ≤ k) (h6 : ∀ k, U' k → k < w'.heap.size) : Tsq p w' T U' out N M := by
  obtain ⟨A, c, ys, a3, a4, a5, a6⟩ := h.rest
  refine ⟨h.c.keep hf h2, h.cT, fun k hk => h4 k (h.tU k hk), h6, Nat.le_trans h.bL hf.size, hf.map h.mpN (h1 _ h.tN), hf.map h.mpV (h1 _ h.tV), h.tN, h.tV, h.tO, h.nv,
    A, c, ys, hf.blk a3 (h1 _ h.tO), hf.row a4 (fun g hg => h1 g (a5 g hg).1), a5, ?_⟩
  refine (a6.far hf.size (fun k hk hU => hf.block k hk (fun hh => hU (h3 k hh))) (fun k hk hk' => ?_))
  rcases h5 k hk' with h | h
  · exact h
  · omega
theorem Tsq.below (h : Tsq p w T U out N M) (hb : Below w.heap.size w w') : Tsq p w' T U out N M :=
  h.keep (Fr.of_below (G := fun _ => False) hb) (fun _ _ h => h) (fun _ _ h => h) (fun _ h => h.elim) U (fun _ h => h) (fun _ h => .inl h) (fun k hk => Nat.lt_of_lt_of_le (h.uL k hk) hb.size)
/-- the map of pairs is turned -/
theorem Tsq.setV (h : Tsq p w T U out N M) {M' : Int × Int → Option Int} (hm : MapOf Tryz.prog w' 171 p.mV parV (fun x => .int .i64 x) M') (hf : Fr (fun i => i = p.mV) w (fun i => i = p.mV) w') (hs : w'.heap.size = w.heap.size) : Tsq p w' T U out N M' := by
  obtain ⟨A, c, ys, a3, a4, a5, a6⟩ := h.rest
  have hn : ∀ k, p.K k → ¬ (k = p.mV) := fun k hk e => h.cT k hk (e ▸ h.tV)
  have ho : p.xo ≠ p.mV := fun e => by
    obtain ⟨es, clock, hb, _⟩ := h.mpV
    rw [← e, a3] at hb
    cases hb
  exact ⟨h.c.keep hf hn, h.cT, h.tU, fun k hk => by rw [hs]; exact h.uL k hk, Nat.le_trans h.bL hf.size, hf.map h.mpN h.nv, hm, h.tN, h.tV, h.tO, h.nv,
    A, c, ys, hf.blk a3 ho, hf.row a4 (fun g hg => (a5 g hg).2.2.2), a5, a6.far hf.size (fun k hk hU => hf.block k hk (fun e => hU (e ▸ h.tU _ h.tV))) (fun _ _ h => h)⟩
/-- a node is finished -/
theorem Tsq.push (h : Tsq p w T U out N M) {U' : Nat → Prop} (h1 : ∀ k, T k → U' k) (h2 : ∀ k, U' k → U k) {l : Int} {X : List Int} {w5 : World} {N' : Int × Int × Int → Option Int}
    (hm5 : MapOf Tryz.prog w5 167 p.mN nodV2 (fun x => .int .i64 x) N') (hf5 : Fr (fun i => i = p.mN) w (fun i => i = p.mN) w5)
    {A : Option Addr} {c : Nat} (hA : Blk w p.xo 25 #[.int .i64 2, .slice p.AI p.nl p.cI, .slice A out.length c]) :
    ∃ ys, w5.ownsRow p.bs 101 2 (.slice A out.length c) out.length ys ∧ ∀ (gz : Nat) (w6 w6' : World) (g7 d7 c2 : Nat) (w7 : World), w.heap.size ≤ gz → Below w5.heap.size w5 w6 → Below w6.heap.size w6 w6' → gz < w6.heap.size → Reads w6 w6.heap.size (some ⟨gz, 0, none⟩) X.length (il X) → w7.ownsRow p.bs 101 2 (.slice (some ⟨g7, 0, none⟩) (out.length + 1) d7) (out.length + 1) (ys ++ [.int .i64 l, .slice (some ⟨gz, 0, none⟩) X.length c2]) →
      w6'.grownBy w7 (Value.slice A out.length c).ownBlock → ((Value.slice A out.length c).ownBlock = some g7 ∨ w6'.heap.size ≤ g7) → g7 < w7.heap.size →
      ∃ T', Tsq p (w7.setCell ⟨p.xo, 2, none⟩ (.slice (some ⟨g7, 0, none⟩) (out.length + 1) d7)) T' (fun k => U' k ∨ T' k) (out ++ [(l, X)]) N' M ∧ Fr T w T' (w7.setCell ⟨p.xo, 2, none⟩ (.slice (some ⟨g7, 0, none⟩) (out.length + 1) d7)) := by
  obtain ⟨A', c', ys, a3, a4, a5, a6⟩ := h.rest
  have e : A' = A ∧ c' = c := by
    have := hA.symm.trans a3
    injection this with this
    injection this with this
    simp at this
    exact ⟨this.1.symm, this.2.symm⟩
  obtain ⟨rfl, rfl⟩ := e
  have hT : ∀ k, T k → k < w.heap.size := fun k hk => h.uL k (h.tU k hk)
  have r5 := hf5.row a4 (fun g hg => (a5 g hg).2.2.1)
  refine ⟨ys, r5, fun gz w6 w6' g7 d7 c2 w7 hz hb6 hb6' hzl hX hown7 hgr7 hat7 hlt7 => ?_⟩
  have hs5 := hf5.size
  have hs6 := hb6.size
  have hs6' := hb6'.size
  have hs7 := hgr7.size
  have F1 : Fr T w T w5 := hf5.weak (fun k e => e ▸ h.tN) (fun k h => .inl h)
  have F2 : Fr T w T w6 := F1.trans (Fr.of_below hb6)
  have F2' : Fr T w T w6' := F2.trans (Fr.of_below hb6')
  have F3 : Fr T w (fun k => T k ∨ k = g7) w7 := F2'.trans ⟨hgr7.os, hgr7.tape, hgr7.output, hgr7.size, fun k hk hG => hgr7.block k hk (fun e => hG (a5 k e.symm).1), fun k hk => by
    rcases hk with hk | hk
    · exact .inl hk
    · subst hk
      rcases hat7 with e | e
      · exact .inl (a5 _ e).1
      · exact .inr e⟩
  have F4 := F3.trans (Fr.set_ (G := fun k => T k ∨ k = g7) w7 (p := ⟨p.xo, 2, none⟩) (.slice (some ⟨g7, 0, none⟩) (out.length + 1) d7) (.inl h.tO))
  have hsz : (w7.setCell ⟨p.xo, 2, none⟩ (.slice (some ⟨g7, 0, none⟩) (out.length + 1) d7)).heap.size = w7.heap.size := by simp [World.setCell]
  have q1 := hT _ h.tO
  have q2 := hT _ h.tN
  have q3 := hT _ h.tV
  have hg7 : g7 ≠ p.xo ∧ g7 ≠ p.mN ∧ g7 ≠ p.mV := by
    rcases hat7 with e | e
    · exact (a5 _ e).2
    · exact ⟨by omega, by omega, by omega⟩
  have hno : p.mN ≠ p.xo := fun e => by
    obtain ⟨es, clock, hb, _⟩ := h.mpN
    rw [e, a3] at hb
    cases hb
  have hvo : p.mV ≠ p.xo := fun e => by
    obtain ⟨es, clock, hb, _⟩ := h.mpV
    rw [e, a3] at hb
    cases hb
  have hgT : T g7 ∨ w6'.heap.size ≤ g7 := by
    rcases hat7 with e | e
    · exact .inl (a5 _ e).1
    · exact .inr e
  refine ⟨fun k => T k ∨ k = g7, ⟨h.c.keep F4 h.cT, ?_, fun k hk => .inr hk, ?_, Nat.le_trans h.bL F4.size, ?_, ?_, .inl h.tN, .inl h.tV, .inl h.tO, h.nv, some ⟨g7, 0, none⟩, d7, ys ++ [.int .i64 l, .slice (some ⟨gz, 0, none⟩) X.length c2], ?_, ?_, ?_, ?_⟩, F4⟩
  · intro k hk hk'
    rcases hk' with hk' | rfl
    · exact h.cT k hk hk'
    · rcases hgT with q | q
      · exact h.cT k hk q
      · have := h.c.lt k hk; omega
  · intro k hk
    rw [hsz]
    rcases hk with hk | hk | rfl
    · have := h.uL k (h2 k hk); omega
    · have := hT k hk; omega
    · exact hlt7
  · refine hm5.of_block ?_
    rw [Below.heap_setCell _ _ _ _ hno, hgr7.block p.mN (by omega) (fun e => (a5 _ e.symm).2.2.1 rfl), hb6'.block p.mN (by omega), hb6.block p.mN (by omega)]
  · refine h.mpV.of_block ?_
    rw [Below.heap_setCell _ _ _ _ hvo, hgr7.block p.mV (by omega) (fun e => (a5 _ e.symm).2.2.2 rfl), hb6'.block p.mV (by omega), hb6.block p.mV (by omega), hf5.block p.mV q3 (fun e => h.nv e.symm)]
  · have hb5 := hf5.blk a3 (Ne.symm hno)
    have hb7 : Blk w7 p.xo 25 _ := (hgr7.block p.xo (by omega) (fun e => (a5 _ e.symm).2.1 rfl)).trans ((hb6'.block p.xo (by omega)).trans ((hb6.block p.xo (by omega)).trans hb5))
    have := hb7.set_ 2 (.slice (some ⟨g7, 0, none⟩) (out.length + 1) d7)
    simpa using this
  · have := own_set hown7 (p := ⟨p.xo, 2, none⟩) (by simp [Value.ownBlock]; exact hg7.1) (.slice (some ⟨g7, 0, none⟩) (out.length + 1) d7)
    simpa using this
  · intro g hg
    have : g7 = g := by simpa [Value.ownBlock] using hg
    subst this
    exact ⟨.inr rfl, hg7⟩
  · have hi6 : Inn w6 U' ys out.length (lvO out) (nxO out) := (a6.sub (fun k _ hk => h2 k hk)).far (by omega) (fun b hb hU => F2.block b hb (fun hT' => hU (h1 b hT'))) (fun _ _ hU => hU)
    have hl := a4.1
    have hi2 : Inn w6 U' (ys ++ [.int .i64 (lvO (out ++ [(l, X)]) out.length), .slice (some ⟨gz, 0, none⟩) (nxO (out ++ [(l, X)]) out.length).length c2]) (out.length + 1) (lvO (out ++ [(l, X)])) (nxO (out ++ [(l, X)])) := by
      refine (hi6.congr (fun k hk => ⟨lvO_app hk, nxO_app hk⟩)).push hl ?_ ?_
      · rw [nxO_new]; exact hX
      · intro _ ad e hU
        injection e with e
        subst e
        have := h.uL _ (h2 _ hU)
        simp only at this
        omega
    rw [lvO_new, nxO_new] at hi2
    have hlen : (out ++ [(l, X)]).length = out.length + 1 := by simp
    rw [hlen]
    refine hi2.far (by rw [hsz]; omega) (fun k hk hU => ?_) ?_
    · rw [Below.heap_setCell _ _ _ _ (fun e => hU (by have := h1 _ h.tO; rw [e]; exact this)), hgr7.block k (by omega) (fun e => hU (h1 _ (a5 _ e.symm).1)), hb6'.block k hk]
    · intro k hk hk'
      rcases hk' with hk' | hk' | rfl
      · exact hk'
      · exact h1 k hk'
      · rcases hgT with q | q
        · exact h1 _ q
        · omega
end
end Go.Proofs.YtjekpmkghpjamaaGreatDoor
namespace Go.Proofs.YtjekpmkghpjamaaGreatDoor
open Go.RowKit

section
variable {p : TP} {w : World} {T U : Nat → Prop} {out : List (Int × List Int)} {N : Int × Int × Int → Option Int} {M : Int × Int → Option Int}
set_option maxRecDepth 100000 in
set_option maxHeartbeats 2000000 in
theorem add_foundT {lv a b r : Int} (h : Tsq p w T U out N M) (h1 : R64 lv) (h2 : R64 a) (h3 : R64 b) (ha : N (lv, a, b) = some r) :
    Calls Tryz.prog 117 #[.agg #[.int .i64 lv, .int .i64 a, .int .i64 b, .int .i64 0, .int .i64 0, .int .i64 0, .int .i64 0, .int .i64 0, .int .i64 0], .pointer (some ⟨p.xN, 0, none⟩), .pointer (some ⟨p.xo, 0, none⟩), .pointer (some ⟨p.xS, 0, none⟩)] w fun e w' => e = .returned (.int .i64 r) ∧ Below w.heap.size w w' := by
  have B1 := Lib.hid ((Below.refl w.heap.size w).alloc (Nat.le_refl _) (.cells (nod2 (lv, a, b)) 167))
  have lk := node_look (h.below B1.out).mpN (x := (lv, a, b)) h1 h2 h3
  rw [ha] at lk
  simp only [nodV2, nod2] at lk
  obtain ⟨k0, k1, k2⟩ := (h.below B1.out).c.cN.one
  have B1 := B1
  simp only [nod2] at B1 k0 k1 k2
  clear h ha
  go_enter Tryz.func117, Tryz.ntmps117
  go_wp2
  go_ret
  exact ⟨rfl, B1.out⟩
set_option maxRecDepth 100000 in
set_option maxHeartbeats 4000000 in
theorem add_newT {lv a b : Int} (h : Tsq p w T U out N M) (hok : NOK out N) (h1 : R64 lv) (h2 : R64 a) (h3 : R64 b) (ha : N (lv, a, b) = none) (hcap : out.length ≤ 1000000) :
    Calls Tryz.prog 117 #[.agg #[.int .i64 lv, .int .i64 a, .int .i64 b, .int .i64 0, .int .i64 0, .int .i64 0, .int .i64 0, .int .i64 0, .int .i64 0], .pointer (some ⟨p.xN, 0, none⟩), .pointer (some ⟨p.xo, 0, none⟩), .pointer (some ⟨p.xS, 0, none⟩)] w fun e w' =>
      ∃ T' N', e = .returned (.int .i64 (out.length : Int)) ∧ Tsq p w' T' (fun k => U k ∨ T' k) (out ++ [(lv, [a, b])]) N' M ∧ Fr T w T' w' ∧ NOK (out ++ [(lv, [a, b])]) N' := by
  obtain ⟨w1, hw1⟩ : ∃ w1, w1 = w.alloc (.cells (nod2 (lv, a, b)) 167) := ⟨_, rfl⟩
  have B1 : Below w.heap.size w w1 := by rw [hw1]; exact (Below.refl w.heap.size w).alloc (Nat.le_refl _) _
  have H1 := h.below B1
  have K1 : Blk w1 w.heap.size 167 #[.int .i64 lv, .int .i64 a, .int .i64 b, .int .i64 0, .int .i64 0, .int .i64 0, .int .i64 0, .int .i64 0, .int .i64 0] := by rw [hw1]; exact Blk.new w _ _
  have hs1 : w1.heap.size = w.heap.size + 1 := by rw [hw1]; simp
  have lk := node_look H1.mpN (x := (lv, a, b)) h1 h2 h3
  rw [ha] at lk
  simp only [nodV2, nod2] at lk
  obtain ⟨kl, hkl⟩ := key_nodeE (x := (lv, a, b)) h1 h2 h3
  obtain ⟨k0, k1, k2⟩ := H1.c.cN.one
  obtain ⟨A, c, ys, r1, r2, r3, r4⟩ := H1.rest
  obtain ⟨o0, o1, o2, o3⟩ := r1.three
  obtain ⟨w5, hr5, hm5, hs5, hf5⟩ := MapOf.store (t := 165) H1.mpN Tryz.keyNodeE Tryz.underlying165 (out.length : Int) hkl (fun y _ _ e => nodV2_inj e)
  simp only [nodV2, nod2] at hr5
  obtain ⟨ys', O5, PUSH⟩ := H1.push (l := lv) (X := [a, b]) (U' := U) H1.tU (fun _ h => h) hm5 hf5 r1
  have hno : p.xo ≠ p.mN := fun e => by
    obtain ⟨es, clock, hb, _⟩ := H1.mpN
    rw [← e, r1] at hb
    cases hb
  have hnm : ∀ k, p.K k → ¬ (k = p.mN) := fun k hk e => H1.cT k hk (e ▸ H1.tN)
  have hbm : w.heap.size ≠ p.mN := fun e => by have := h.uL _ (h.tU _ h.tN); omega
  have hbo : w.heap.size ≠ p.xo := fun e => by have := h.uL _ (h.tU _ h.tO); omega
  have hso : p.xS ≠ p.xo := fun e => H1.cT _ (.inr (.inl rfl)) (e ▸ H1.tO)
  have K5 : Blk w5 w.heap.size 167 _ := hf5.blk K1 hbm
  have X5 : Blk w5 p.xo 25 _ := hf5.blk r1 hno
  have S5 : Blk w5 p.xS 3 #[.int .i64 2] := hf5.blk H1.c.cS (hnm _ (.inr (.inl rfl)))
  have hrow : ∀ g, (Value.slice A out.length c).ownBlock = some g → T g ∧ g ≠ p.xo ∧ g ≠ p.mN ∧ g ≠ p.mV := r3
  have hUl := H1.uL
  have hTU := H1.tU
  have hcK := H1.cT
  have hbs : p.bs ≤ w5.heap.size := by rw [hs5]; exact H1.bL
  have H1K := Lib.hid K1
  have KL5 := K5.lt
  have XL5 := X5.lt
  have SL5 := S5.lt
  have hal : w.heap.size < w5.heap.size := KL5
  obtain ⟨i0, hi, hz0, hz1, hz2⟩ := info_parts Tryz.info_node
  have RD5 : Reads w5 w5.heap.size (some ⟨w.heap.size, 1, none⟩) 2 (il [a, b]) := ⟨rfl, fun _ => ⟨_, rfl, KL5, fun j u hj => by
    match j, hj with
    | 0, hj => simp [il] at hj; subst hj; exact K5.nine.2.1
    | 1, hj => simp [il] at hj; subst hj; exact K5.nine.2.2.1⟩⟩
  have CL := Lib.hid (iclone_any (some ⟨w.heap.size, 1, none⟩) 8 2 [a, b] w5.drew RD5 (by omega) (by omega))
  have s0 : w5.drew.cell? ⟨w.heap.size, 0, none⟩ = some (.int .i64 lv) := K5.nine.1
  have s1 : w5.drew.cell? ⟨p.xS, 0, none⟩ = some (.int .i64 2) := S5.one.1
  have s2 : w5.drew.cell? ⟨p.xo, 2, none⟩ = some (.slice A out.length c) := X5.three.2.2.1
  have KH := Lib.hid K5
  have PU := Lib.hid PUSH
  have O5H := Lib.hid O5
  have XH := Lib.hid X5
  have HOK := Lib.hid (hok.push (lv, a, b))
  have F1 := Lib.hid (Fr.of_below (G := T) B1)
  have hW1 := Lib.hid hw1
  obtain ⟨q0, q1, q2, q3, q4, q5, q6, q7, q8⟩ := H1K.out.nine
  have hs15 := Lib.hid hs5
  have HR3 := Lib.hid hrow
  clear h hok ha B1 H1 hs1 hkl r1 r2 r3 r4 hm5 hs5 hf5 O5 PUSH hnm K5 X5 S5 hrow hUl hTU hcK RD5 KL5 hw1
  go_enter Tryz.func117, Tryz.ntmps117
  go_upto_region 1 with (fail)
  have hgw : w.alloc (.cells #[.int .i64 lv, .int .i64 a, .int .i64 b, .int .i64 0, .int .i64 0, .int .i64 0, .int .i64 0, .int .i64 0, .int .i64 0] 167) = w1 := hW1.out.symm
  rw [hgw]
  clear hgw
  go_wp2
  go_region_law (first
    | (refine step_append_lies _ (by rfl) _ _ _ (by rfl) p.bs 101 i0 (.agg #[.int .i64 0, .slice none 0 0]) 2 32 Tryz.underlying23 hi hz0 hz1 hz2 rfl (by decide) (.slice A out.length c) out.length ys' (by rfl) (OA.out.alloc _) ⟨wa.heap.size, 0, none⟩ 1 1 [.int .i64 lv, .slice (some ⟨g, 0, none⟩) 2 cap] (by rfl) (by rfl) (World.news_of_block (cs := #[.int .i64 lv, .slice (some ⟨g, 0, none⟩) 2 cap]) (t := 101) (fr := (0, 0)) (heap_alloc_new wa _)) (by simp [Value.oneCell']) (by omega) (by unfold maxLen; omega) (by omega) (by simp; omega) (wa.heap.size + 1) (by simp) ?_; intro g6 c6 w6 hown6 hgrow6 hat6 hlt6; have hgr6 : (wa.alloc (.cells #[.int .i64 lv, .slice (some ⟨g, 0, none⟩) 2 cap] 101)).grownBy w6 (Value.slice A out.length c).ownBlock := ⟨hgrow6.os, hgrow6.tape, hgrow6.output, hgrow6.size, hgrow6.block⟩; have K6 := Lib.hid (show Blk w6 p.xo 25 _ from (hgr6.block p.xo (by simp; have := XA.out.lt; omega) (fun e => (HR3.out _ e.symm).2.1 rfl)).trans (XA.out.alloc _)); obtain ⟨z0, z1, z2, z3, z4, z5, z6⟩ := K6.out.three6; have PG := Lib.hid (PU.out g wa _ g6 c6 cap w6 (by obtain ⟨cur, _, _, _, _, _, _, hh⟩ := R6.out; have := hs15.out; have hh : w5.heap.size ≤ g := hh; omega) BA.out ((Below.refl _ _).alloc (Nat.le_refl _) _) (by obtain ⟨cur, hbl, _⟩ := R6.out; exact hbl.lt) R6.out.reads hown6 hgr6 (hat6.imp id (fun e => by simp; omega)) hlt6); clear hown6 hgr6 hgrow6 hat6 hlt6)
    | (go_simp; go_wp2_with (go_at_call 118; (with_reducible refine CL.out.mono ?_); rintro e wa ⟨g, cap, rfl, hrw, hb⟩; have R6 := Lib.hid hrw; have hba : Below w5.heap.size w5 wa := ((Below.refl _ w5).drew).trans hb; have BA := Lib.hid hba; have XA := Lib.hid (XH.out.below hba XL5); have OA := Lib.hid (own_below2 O5H.out hba); have hsa := hba.size; have hbsa : p.bs ≤ wa.heap.size := Nat.le_trans hbs hba.size; have y0 := (KH.out.below hba KH.out.lt).nine.1; have y2 := XA.out.three.2.2.1; have y4 := fun o => (XA.out.alloc o).three.2.2.1; clear hrw hb)))
  all_goals
    clear z0 z1 z2 z3 z4 z5 z6 y0 y2 y4 s0 s1 s2
    obtain ⟨T7, W7, F7⟩ := PG.out
    have W7 := Lib.hid W7
    have F7 := Lib.hid F7
    generalize w6.setCell ⟨p.xo, 2, none⟩ (.slice (some ⟨g6, 0, none⟩) (out.length + 1) c6) = w8 at W7 F7 ⊢
    go_wp2
    go_ret
    exact ⟨T7, _, rfl, W7.out, F1.out.trans F7.out, HOK.out⟩
end
end Go.Proofs.YtjekpmkghpjamaaGreatDoor
namespace Go.Proofs.YtjekpmkghpjamaaGreatDoor
open Go.RowKit

/-- the pairs that were met -/
def VOT (nl : Nat) (wt : Nat → Nat) (f : Nat → Int) (out : List (Int × List Int)) (M : Int × Int → Option Int) : Prop := ∀ x k, M x = some k → ∃ l s : Nat, x = ((l : Int), (s : Int)) ∧ 1 ≤ l ∧ Mn 2 out l (fun q => f (s + wn wt q)) k
theorem VOT.pre {nl : Nat} {wt : Nat → Nat} {f : Nat → Int} {a b : List (Int × List Int)} {M : Int × Int → Option Int} (h : VOT nl wt f a M) (hb : Gd 2 nl b) (hp : Pre a b) (hga : Gd 2 nl a) : VOT nl wt f b M := fun x k hx => by
  obtain ⟨l, s, h1, h2, h3⟩ := h x k hx
  exact ⟨l, s, h1, h2, h3.pre hb hp hga⟩
/-- what a visit promises -/
def VisT (p : TP) (w : World) (T U : Nat → Prop) (out : List (Int × List Int)) (l s : Nat) (e : Ending) (w' : World) : Prop :=
  ∃ T' out' N' M' r, e = .returned (.int .i64 r) ∧ Tsq p w' T' (fun k => U k ∨ T' k) out' N' M' ∧ Fr T w T' w' ∧ Gd 2 p.nl out' ∧ Pre out out' ∧ NOK out' N' ∧ VOT p.nl p.wt p.rb out' M' ∧ Mn 2 out' l (fun q => p.rb (s + wn p.wt q)) r ∧ (∀ i, out.length ≤ i → i < out'.length → lvO out' i ≤ l) ∧ out'.length + 1 ≤ out.length + 2 ^ l
section
variable {p : TP} {w : World} {T U : Nat → Prop} {out : List (Int × List Int)} {N : Int × Int × Int → Option Int} {M : Int × Int → Option Int}
set_option maxRecDepth 100000 in
theorem vist_zero {s : Nat} (hs : s ≤ p.S) (h : Tsq p w T U out N M) (hg : Gd 2 p.nl out) (hn : NOK out N) (hm : VOT p.nl p.wt p.rb out M) :
    Calls Tryz.prog 119 #[.int .i64 0, .int .i64 (s : Int), .pointer (some ⟨p.xR, 0, none⟩), .pointer (some ⟨p.xV, 0, none⟩), .pointer (some ⟨p.xS, 0, none⟩), .pointer (some ⟨p.xF, 0, none⟩), .pointer (some ⟨p.xM, 0, none⟩), .pointer (some ⟨p.xL, 0, none⟩), .pointer (some ⟨p.xA, 0, none⟩)] w (VisT p w T U out 0 s) := by
  have H := Lib.hid h
  have HG := Lib.hid hg
  have HN := Lib.hid hn
  have HM := Lib.hid hm
  have RE := Lib.hid (h.c.cQ.hR w s h.c.cB hs)
  obtain ⟨k0, k1, k2⟩ := h.c.cR.one
  unfold fnResultT at k0
  have hrb : 0 ≤ p.rb s ∧ p.rb s < 2 := by
    exact h.c.cQ.hb s hs
  have HRB := Lib.hid hrb
  clear h hg hn hm hrb
  go_enter Tryz.func119, Tryz.ntmps119
  go_wp2_with ((with_reducible refine RE.out.mono ?_); rintro e w1 ⟨rfl, hb1⟩; have B1 := Lib.hid hb1; clear hb1)
  go_ret
  exact ⟨T, out, N, M, p.rb s, rfl, (H.out.below B1.out).here, Fr.of_below B1.out, HG.out, Pre.refl _, HN.out, HM.out, ⟨⟨HRB.out.1, fun _ => HRB.out.2, fun h => absurd h (by omega)⟩, fun q hq _ => by
    have : q = [] := List.length_eq_zero_iff.1 hq
    subst this
    rfl⟩, fun i h1 h2 => absurd h2 (by omega), by simp⟩
set_option maxRecDepth 100000 in
theorem vist_found {s l : Nat} {i : Int} (hl : 1 ≤ l) (hl2 : l ≤ p.nl) (hs : s ≤ p.S) (h : Tsq p w T U out N M) (hg : Gd 2 p.nl out) (hn : NOK out N) (hm : VOT p.nl p.wt p.rb out M) (hf : M ((l : Int), (s : Int)) = some i) :
    Calls Tryz.prog 119 #[.int .i64 (l : Int), .int .i64 (s : Int), .pointer (some ⟨p.xR, 0, none⟩), .pointer (some ⟨p.xV, 0, none⟩), .pointer (some ⟨p.xS, 0, none⟩), .pointer (some ⟨p.xF, 0, none⟩), .pointer (some ⟨p.xM, 0, none⟩), .pointer (some ⟨p.xL, 0, none⟩), .pointer (some ⟨p.xA, 0, none⟩)] w (VisT p w T U out l s) := by
  have H := Lib.hid h
  have HG := Lib.hid hg
  have HN := Lib.hid hn
  have HM := Lib.hid hm
  have hn9 := h.c.cQ.hn.2
  have hS9 := h.c.cQ.hS
  have lk := pair_look h.mpV (x := ((l : Int), (s : Int))) ⟨by simp only; omega, by simp only; omega⟩ ⟨by simp only; omega, by simp only; omega⟩
  rw [hf] at lk
  simp only [parV] at lk
  obtain ⟨k0, k1, k2⟩ := h.c.cV.one
  have HI := Lib.hid (show Mn 2 out l (fun q => p.rb (s + wn p.wt q)) i by
    obtain ⟨l', s', h1, h2, h3⟩ := hm _ _ hf
    simp only [Prod.mk.injEq] at h1
    obtain rfl : l = l' := by omega
    obtain rfl : s = s' := by omega
    exact h3)
  clear h hg hn hm hf hn9 hS9
  go_enter Tryz.func119, Tryz.ntmps119
  go_wp2
  go_ret
  exact ⟨T, out, N, M, i, rfl, H.out.here, Fr.refl _ _, HG.out, Pre.refl _, HN.out, HM.out, HI.out, fun i h1 h2 => absurd h2 (by omega), by have := Nat.pow_pos (n := l) (show 0 < 2 by omega); omega⟩
end
end Go.Proofs.YtjekpmkghpjamaaGreatDoor
