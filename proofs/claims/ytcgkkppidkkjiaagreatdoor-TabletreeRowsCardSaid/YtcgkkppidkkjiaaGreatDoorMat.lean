/- The walk of walk$1, its easy ways. -/
/- What a visit does to the walk's memory. -/
import Derived.Test.YtcgkkppidkkjiaaGreatDoorMan
import Derived.Test.YtcgkkppidkkjiaaGreatDoorMao
import Derived.Test.YtcgkkppidkkjiaaGreatDoorMas
import Derived.Test.YtcgkkppidkkjiaaGreatDoorMar
import Derived.Below
import Derived.BigQuiet
import Derived.Deep.AppendLies
import Derived.Deep.CutRange
import Derived.Deep.Draws
import Derived.Deep.QuietTactic
import Derived.Deep.RegionHeldLaw
import Derived.Deep.RegionLaw
import Derived.DeepKeys4
import Derived.IntWalk
import Derived.Laws.OwnMore
import Derived.Laws.Rows
import Derived.Lib.Hide
import Derived.LoopN
import Derived.Maps.OwnOps
import Derived.OwnWalk
import Derived.Shelf.Abstract
import Derived.Sort.Statements
import Derived.StillTail
import Derived.StillTailTactics
import Derived.Test.YtcgkkppidkkjiaaGreatDoorRows
import Derived.WalkKit
import Derived.Test.YtcgkkppidkkjiaaGreatDoorMaa
import Derived.Test.YtcgkkppidkkjiaaGreatDoorMab
import Derived.Test.YtcgkkppidkkjiaaGreatDoorMaj
import Derived.Test.YtcgkkppidkkjiaaGreatDoorMaf
namespace Go.Proofs.YtcgkkppidkkjiaaGreatDoor
open Go.RowKit
def WB.cb (b : WB) : Array Value := #[.pointer (some ⟨b.xf, 0, none⟩), .pointer (some ⟨b.xn, 0, none⟩), .pointer (some ⟨b.xp, 0, none⟩), .pointer (some ⟨b.xe, 0, none⟩), .pointer (some ⟨b.xv, 0, none⟩)]
/-- what a visit promises -/
def VisOutR {σ : Type} (st : Int) (St : World → (Nat → Prop) → σ → Prop) (b : WB) (w : World) (T U : Nat → Prop) (r : Int) (S' : Wk σ) (e : Ending) (w' : World) : Prop :=
  ∃ T', e = .returned (.int .i64 r) ∧ WstR st St b w' T' (fun k => U k ∨ T' k) S' ∧ Fr T w T' w'
theorem fin_look {P : Program} {w : World} {mb : Nat} {fin : List (Int × Int)} (hm : MapOf Tryz.prog w 21 mb (fun x => .int .i32 x) (fun x => .int .i64 x) (fun n => fin.lookup n)) {n : Int} (hn : I32 n) (c : Bool) :
    (Instr.lookup 158 (.map (some mb)) (.int .i32 n) c).run Tryz.prog w = .ok (match fin.lookup n with | some v => (if c then .tuple #[.int .i64 v, .bool true] else .int .i64 v) | none => (if c then .tuple #[.int .i64 0, .bool false] else .int .i64 0)) w := by
  rw [hm.look c Tryz.keyI32 Tryz.underlying158 (zero_int w) (key_i32 hn.1 hn.2) (fun y _ _ e => i32V_inj e)]
  cases fin.lookup n <;> rfl

section
variable {σ : Type} {sn lm : Nat} {St : World → (Nat → Prop) → σ → Prop} {el : σ → Int → Nat → Option (List Int × σ)} {b : WB} {w : World} {T U : Nat → Prop} {S : Wk σ} {gE : FuncId} {cb : Array Value}
theorem WstR.here {st : Int} (h : WstR st St b w T U S) : WstR st St b w T (fun k => U k ∨ T k) S := h.wide (fun k hk => .inr hk) (fun k hk => hk.elim id (h.tU k))
set_option maxRecDepth 100000 in
theorem vis_zeroR {n : Int} (hn : I32 n) (h : WstR (sn : Int) St b w T U S) :
    Calls Tryz.prog 107 #[.int .i32 n, .int .i64 0, .pointer (some ⟨b.xf, 0, none⟩), .pointer (some ⟨b.xn, 0, none⟩), .pointer (some ⟨b.xp, 0, none⟩), .pointer (some ⟨b.xe, 0, none⟩), .pointer (some ⟨b.xv, 0, none⟩)] w fun e w' => VisOutR (sn : Int) St b w T U n S e w' := by
  have H := Lib.hid h
  obtain ⟨n1, n2⟩ := hn
  have c1 : IntKind.i64.wrap n = n := IntWalk.i64_in _ ⟨by omega, by omega⟩
  clear h
  go_enter Tryz.func107, Tryz.ntmps107
  go_wp2
  go_ret
  exact ⟨T, rfl, H.out.here, Fr.refl _ _⟩
set_option maxRecDepth 100000 in
theorem vis_foundR {n i : Int} {l : Nat} (hl : 1 ≤ l) (hl2 : l ≤ 1000) (hn : I32 n) (h : WstR (sn : Int) St b w T U S) (hf : S.fin.lookup n = some i) :
    Calls Tryz.prog 107 #[.int .i32 n, .int .i64 (l : Int), .pointer (some ⟨b.xf, 0, none⟩), .pointer (some ⟨b.xn, 0, none⟩), .pointer (some ⟨b.xp, 0, none⟩), .pointer (some ⟨b.xe, 0, none⟩), .pointer (some ⟨b.xv, 0, none⟩)] w fun e w' => VisOutR (sn : Int) St b w T U i S e w' := by
  have H := Lib.hid h
  have lk := fin_look (P := Tryz.prog) h.map hn true
  rw [hf] at lk
  simp only [if_true] at lk
  obtain ⟨k0, k1, k2⟩ := h.cf.one
  clear h hn hf
  go_enter Tryz.func107, Tryz.ntmps107
  go_wp2
  go_ret
  exact ⟨T, rfl, H.out.here, Fr.refl _ _⟩
set_option maxRecDepth 100000 in
theorem vis_cut {n : Int} {l : Nat} (hl : 1 ≤ l) (hl2 : l ≤ 1000) (hn : I32 n) (h : WstR (sn : Int) St b w T U S) (hf : S.fin.lookup n = none) (ho : 4096 < S.out.length) :
    Calls Tryz.prog 107 #[.int .i32 n, .int .i64 (l : Int), .pointer (some ⟨b.xf, 0, none⟩), .pointer (some ⟨b.xn, 0, none⟩), .pointer (some ⟨b.xp, 0, none⟩), .pointer (some ⟨b.xe, 0, none⟩), .pointer (some ⟨b.xv, 0, none⟩)] w fun e w' => VisOutR (sn : Int) St b w T U 0 S e w' := by
  have H := Lib.hid h
  have lk := fin_look (P := Tryz.prog) h.map hn true
  rw [hf] at lk
  simp only [if_true] at lk
  obtain ⟨k0, k1, k2⟩ := h.cf.one
  obtain ⟨G, A, c, xs, a1, a2, a3, a4, a5, a6⟩ := h.rest
  obtain ⟨m0, m1, m2⟩ := a3.one
  clear h hn hf a1 a2 a3 a4 a5 a6
  go_enter Tryz.func107, Tryz.ntmps107
  go_wp2
  go_ret
  exact ⟨T, rfl, H.out.here, Fr.refl _ _⟩
end
end Go.Proofs.YtcgkkppidkkjiaaGreatDoor
namespace Go.Proofs.YtcgkkppidkkjiaaGreatDoor
open Go.RowKit
section
variable {σ : Type} {sn lm : Nat} {st : Int} {St : World → (Nat → Prop) → σ → Prop} {el : σ → Int → Nat → Option (List Int × σ)} {b : WB} {w : World} {T U : Nat → Prop} {S : Wk σ} {gE : FuncId} {cb : Array Value}
/-- the elements' function -/
theorem WstR.elm (E : Els sn St el b lm gE cb) (h : WstR st St b w T U S) : ∃ G, St w G S.s ∧ ∀ w' G' s', St w' G' s' → Fr G w G' w' → WstR st St b w' (fun k => T k ∨ G' k) (fun k => U k ∨ G' k) { S with s := s' } ∧ Fr T w (fun k => T k ∨ G' k) w' := by
  obtain ⟨G, A, c, xs, a1, a2, a3, a4, a5, a6⟩ := h.rest
  refine ⟨G, a1, fun w' G' s' hs hf => ?_⟩
  have hnew : ∀ k, k < w.heap.size → G' k → G k := fun k hk hG => (hf.new k hG).elim id (fun h => absurd hk (by omega))
  have hT : ∀ k, T k → k < w.heap.size := fun k hk => h.uL k (h.tU k hk)
  have hcl : ∀ k, b.cst k → k < w.heap.size := fun k hk => by
    rcases hk with rfl | rfl | rfl | rfl
    · exact h.cf.lt
    · exact h.cp.lt
    · exact h.ce.lt
    · exact h.cv.lt
  have hcn : ∀ k, b.cst k → ¬ G k := fun k hk hG => h.cT k hk (a2 k hG).1
  refine ⟨⟨hf.blk h.cf (hcn _ (.inl rfl)), hf.blk h.cp (hcn _ (.inr (.inl rfl))), hf.blk h.ce (hcn _ (.inr (.inr (.inl rfl)))), hf.blk h.cv (hcn _ (.inr (.inr (.inr rfl)))), ?_, ?_, ?_, Nat.le_trans h.bL hf.size, hf.map h.map (fun hG => (a2 _ hG).2.1 rfl), .inl h.tm, .inl h.tn,
    G', A, c, xs, hs, ?_, hf.blk a3 (fun hG => (a2 _ hG).2.2.1 rfl), hf.row a4 (fun g hg hG => (a2 g hG).2.2.2 hg), fun g hg => ⟨.inl (a5 g hg).1, (a5 g hg).2⟩, ?_⟩, ?_⟩
  · intro k hk hk'
    rcases hk' with hk' | hk'
    · exact h.cT k hk hk'
    · exact hcn k hk (hnew k (hcl k hk) hk')
  · intro k hk
    exact hk.imp (h.tU k) id
  · intro k hk
    rcases hk with hk | hk
    · exact Nat.lt_of_lt_of_le (h.uL k hk) hf.size
    · exact E.lt hs k hk
  · intro k hk
    refine ⟨.inr hk, ?_⟩
    rcases hf.new k hk with hG | hge
    · exact (a2 k hG).2
    · refine ⟨fun e => ?_, fun e => ?_, fun e => ?_⟩
      · have := hT _ h.tm; omega
      · have := hT _ h.tn; omega
      · have := hT _ (a5 k e).1; omega
  · exact a6.far hf.size (fun k hk hU => hf.block k hk (fun hG => hU (h.tU k (a2 k hG).1))) (fun k hk hU => hU.elim id (fun hG => h.tU k (a2 k (hnew k hk hG)).1))
  · refine hf.weak (fun k hG => (a2 k hG).1) (fun k hk => hk.elim .inl (fun hG => ?_))
    rcases hf.new k hG with hG | hge
    · exact .inl (a2 k hG).1
    · exact .inr hge

theorem lvO_push (out : List (Int × List Int)) (x : Int × List Int) {k : Nat} : k < out.length → lvO (out ++ [x]) k = lvO out k ∧ nxO (out ++ [x]) k = nxO out k := fun h => by
  simp [lvO, nxO, List.getD, List.getElem?_append_left h]
theorem lvO_last (out : List (Int × List Int)) (x : Int × List Int) : lvO (out ++ [x]) out.length = x.1 ∧ nxO (out ++ [x]) out.length = x.2 := by
  simp [lvO, nxO, List.getD]
/-- a node is finished -/
theorem WstR.push (E : Els sn St el b lm gE cb) (h : WstR st St b w T U S) {U' : Nat → Prop} (h1 : ∀ k, T k → U' k) (h2 : ∀ k, U' k → U k) {n l : Int} {X : List Int} {gz : Nat} (hX : Reads w w.heap.size (some ⟨gz, 0, none⟩) X.length (il X)) (hz : ¬ U' gz) (hzl : gz < w.heap.size) {w5 : World}
    (hm5 : MapOf Tryz.prog w5 21 b.mb (fun x => .int .i32 x) (fun x => .int .i64 x) (fun y => if y = n then some (S.out.length : Int) else S.fin.lookup y)) (hf5 : Fr (fun i => i = b.mb) w (fun i => i = b.mb) w5) (hs5 : w5.heap.size = w.heap.size)
    {A : Option Addr} {c : Nat} (hA : Blk w b.xn 30 #[.slice A S.out.length c]) :
    ∃ xs, w5.ownsRow b.bs 66 2 (.slice A S.out.length c) S.out.length xs ∧ ∀ (o : Obj) (g7 d7 c2 : Nat) (w7 : World), w7.ownsRow b.bs 66 2 (.slice (some ⟨g7, 0, none⟩) (S.out.length + 1) d7) (S.out.length + 1) (xs ++ [.int .i64 l, .slice (some ⟨gz, 0, none⟩) X.length c2]) →
      (w5.alloc o).grownBy w7 (Value.slice A S.out.length c).ownBlock → ((Value.slice A S.out.length c).ownBlock = some g7 ∨ g7 = w5.heap.size + 1) → g7 < w7.heap.size →
      ∃ T', WstR st St b (w7.setCell ⟨b.xn, 0, none⟩ (.slice (some ⟨g7, 0, none⟩) (S.out.length + 1) d7)) T' (fun k => U' k ∨ T' k) { S with fin := (n, (S.out.length : Int)) :: S.fin, out := S.out ++ [(l, X)] } ∧ Fr T w T' (w7.setCell ⟨b.xn, 0, none⟩ (.slice (some ⟨g7, 0, none⟩) (S.out.length + 1) d7)) := by
  obtain ⟨G, A', c', xs, a1, a2, a3, a4, a5, a6⟩ := h.rest
  have e : A' = A ∧ c' = c := by
    have := hA.symm.trans a3
    injection this with this
    injection this with this
    simp at this
    exact ⟨this.1.symm, this.2.symm⟩
  obtain ⟨rfl, rfl⟩ := e
  have hT : ∀ k, T k → k < w.heap.size := fun k hk => h.uL k (h.tU k hk)
  have r5 := hf5.row a4 (fun g hg => (a5 g hg).2.2)
  refine ⟨xs, r5, fun o g7 d7 c2 w7 hown7 hgr7 hat7 hlt7 => ?_⟩
  have hs7 := hgr7.size
  simp only [World.size_alloc] at hs7
  have F1 : Fr T w T w5 := hf5.weak (fun k e => e ▸ h.tm) (fun k h => .inl h)
  have F2 : Fr T w T (w5.alloc o) := F1.trans (Fr.alloc T w5 o)
  have F3 : Fr T w (fun k => T k ∨ k = g7) w7 := F2.trans ⟨hgr7.os, hgr7.tape, hgr7.output, hgr7.size, fun k hk hG => hgr7.block k hk (fun e => hG (a5 k e.symm).1), fun k hk => by
    rcases hk with hk | hk
    · exact .inl hk
    · subst hk
      rcases hat7 with e | e
      · exact .inl (a5 _ e).1
      · exact .inr (by simp; omega)⟩
  have F4 := F3.trans (Fr.set_ (G := fun k => T k ∨ k = g7) w7 (p := ⟨b.xn, 0, none⟩) (.slice (some ⟨g7, 0, none⟩) (S.out.length + 1) d7) (.inl h.tn))
  have hsz : (w7.setCell ⟨b.xn, 0, none⟩ (.slice (some ⟨g7, 0, none⟩) (S.out.length + 1) d7)).heap.size = w7.heap.size := by simp [World.setCell]
  have hg7 : g7 ≠ b.xn ∧ g7 ≠ b.mb := by
    rcases hat7 with e | e
    · exact (a5 _ e).2
    · have q1 := hT _ h.tn
      have q2 := hT _ h.tm
      exact ⟨by omega, by omega⟩
  have hcl : ∀ k, b.cst k → k < w.heap.size := fun k hk => by
    rcases hk with rfl | rfl | rfl | rfl
    · exact h.cf.lt
    · exact h.cp.lt
    · exact h.ce.lt
    · exact h.cv.lt
  have hmn : b.mb ≠ b.xn := fun e => by
    obtain ⟨es, clock, hb, _⟩ := h.map
    rw [e, a3] at hb
    cases hb
  have H := h.cT
  have hgT : T g7 ∨ w.heap.size ≤ g7 := by
    rcases hat7 with e | e
    · exact .inl (a5 _ e).1
    · exact .inr (by omega)
  have hrow : ∀ k, k < w.heap.size → ¬ T k → (w7.setCell ⟨b.xn, 0, none⟩ (.slice (some ⟨g7, 0, none⟩) (S.out.length + 1) d7)).heap[k]? = w.heap[k]? := fun k hk hT' => F4.block k hk hT'
  refine ⟨fun k => T k ∨ k = g7, ⟨F4.blk h.cf (H _ (.inl rfl)), F4.blk h.cp (H _ (.inr (.inl rfl))), F4.blk h.ce (H _ (.inr (.inr (.inl rfl)))), F4.blk h.cv (H _ (.inr (.inr (.inr rfl)))), ?_, fun k hk => .inr hk, ?_, Nat.le_trans h.bL F4.size, ?_, .inl h.tm, .inl h.tn, G, some ⟨g7, 0, none⟩, d7, xs ++ [.int .i64 l, .slice (some ⟨gz, 0, none⟩) X.length c2], ?_, ?_, ?_, ?_, ?_, ?_⟩, F4⟩
  · intro k hk hk'
    rcases hk' with hk' | rfl
    · exact H k hk hk'
    · rcases hgT with q | q
      · exact H k hk q
      · have := hcl k hk; omega
  · intro k hk
    rw [hsz]
    rcases hk with hk | hk | rfl
    · have := h.uL k (h2 k hk); omega
    · have := hT k hk; omega
    · exact hlt7
  · have : (fun y => List.lookup y ((n, (S.out.length : Int)) :: S.fin)) = (fun y => if y = n then some (S.out.length : Int) else S.fin.lookup y) := by
      funext y
      by_cases e : y = n <;> simp [List.lookup, e]
      · have : (y == n) = false := by simp [e]
        rw [this]
    show MapOf _ _ _ _ _ _ (fun y => List.lookup y ((n, (S.out.length : Int)) :: S.fin))
    rw [this]
    refine hm5.of_block ?_
    have q2 := hT _ h.tm
    rw [Below.heap_setCell _ _ _ _ hmn, hgr7.block b.mb (by simp; omega) (fun e => (a5 _ e.symm).2.2 rfl), Below.heap_alloc _ _ _ (by omega)]
  · refine E.keep (H := fun k => (k = b.mb ∨ (Value.slice A' S.out.length c').ownBlock = some k) ∨ k = b.xn) (H' := fun k => False) a1 (Fr.mk F4.os F4.tape F4.output F4.size ?_ (fun _ h => h.elim)) ?_
    · intro k hk hn
      rw [Below.heap_setCell _ _ _ _ (fun e => hn (.inr e)), hgr7.block k (by simp; omega) (fun e => hn (.inl (.inr e.symm))), Below.heap_alloc _ _ _ (by omega), hf5.block k hk (fun e => hn (.inl (.inl e)))]
    · intro k hk hn
      obtain ⟨_, q1, q2, q3⟩ := a2 k hk
      rcases hn with (q | q) | q
      · exact q1 q
      · exact q3 q
      · exact q2 q
  · intro k hk
    obtain ⟨q0, q1, q2, q3⟩ := a2 k hk
    refine ⟨.inl q0, q1, q2, ?_⟩
    intro e
    have : g7 = k := by simpa [Value.ownBlock] using e
    subst this
    rcases hat7 with e | e
    · exact q3 e
    · have := hT _ q0; omega
  · have hb : Blk w7 b.xn _ _ := (hgr7.block b.xn (by have := hT _ h.tn; simp; omega) (fun e => (a5 _ e.symm).2.1 rfl)).trans ((hf5.blk a3 (Ne.symm hmn)).alloc o)
    have := hb.set_ 0 (.slice (some ⟨g7, 0, none⟩) (S.out.length + 1) d7)
    simpa using this
  · have := own_set hown7 (p := ⟨b.xn, 0, none⟩) (by simp [Value.ownBlock]; exact hg7.1) (.slice (some ⟨g7, 0, none⟩) (S.out.length + 1) d7)
    simpa using this
  · intro g hg
    have : g7 = g := by simpa [Value.ownBlock] using hg
    subst this
    exact ⟨.inr rfl, hg7⟩
  · have hi := a6.sub (fun k _ hk => h2 k hk)
    have hl := a4.1
    have hi2 : Inn w U' (xs ++ [.int .i64 (lvO (S.out ++ [(l, X)]) S.out.length), .slice (some ⟨gz, 0, none⟩) (nxO (S.out ++ [(l, X)]) S.out.length).length c2]) (S.out.length + 1) (lvO (S.out ++ [(l, X)])) (nxO (S.out ++ [(l, X)])) := by
      refine (hi.congr (fun k hk => lvO_push _ _ hk)).push hl ?_ ?_
      · rw [(lvO_last S.out (l, X)).2]; exact hX
      · intro _ ad e
        injection e with e
        subst e
        exact hz
    rw [(lvO_last S.out (l, X)).1, (lvO_last S.out (l, X)).2] at hi2
    have hlen : (S.out ++ [(l, X)]).length = S.out.length + 1 := by simp
    show Inn _ _ _ (S.out ++ [(l, X)]).length (lvO (S.out ++ [(l, X)])) (nxO (S.out ++ [(l, X)]))
    rw [hlen]
    refine hi2.far (by rw [hsz]; omega) (fun k hk hU => hrow k hk (fun hT' => hU (h1 k hT'))) ?_
    intro k hk hk'
    rcases hk' with hk' | hk' | rfl
    · exact hk'
    · exact h1 k hk'
    · rcases hgT with q | q
      · exact h1 _ q
      · omega
end
end Go.Proofs.YtcgkkppidkkjiaaGreatDoor
