/- What a round of deciders' range leaves. -/
/- Min, Max of two numbers, isDefault. -/
/- allStates of two states. -/
import Derived.Test.YtcgkkppidkkjiaaGreatDoorMbj
import Derived.Test.YtcgkkppidkkjiaaGreatDoorMbh
import Derived.Test.YtcgkkppidkkjiaaGreatDoorMay
import Derived.Test.YtcgkkppidkkjiaaGreatDoorMab
import Derived.Test.YtcgkkppidkkjiaaGreatDoorMat
import Derived.Test.YtcgkkppidkkjiaaGreatDoorMao
import Derived.Test.YtcgkkppidkkjiaaGreatDoorMad
namespace Go.Proofs.YtcgkkppidkkjiaaGreatDoor
open Go.RowKit Go.Shelf

theorem info_boolE : (Tryz.prog.info? 4).map (fun i => (i.zero, i.size, i.bytes)) = some (some (.bool false), 1, 1) := by kernel_rfl
/-- truth values as cells -/
def bl (l : List Bool) : List Value := l.map fun b => .bool b
/-- the numbers of a part -/
def lst8 (i : Nat) : List Int := if i = 0 then [0, 1, 4, 5] else [2, 3, 6, 7]
/-- what a row decides for the numbers of a part -/
def dv (i : Nat) (x : Fin 2) : Bool := (lst8 i).any (pd (alone T0 x.val) 2)
def dvs (pre : List (Fin 2)) : List Bool := pre.zipIdx.map fun p => dv p.2 p.1
theorem dvs_push (pre : List (Fin 2)) (x : Fin 2) : dvs (pre ++ [x]) = dvs pre ++ [dv pre.length x] := by
  simp [dvs, List.zipIdx_append]
theorem dvs_all : dvs [0, 1] = [true, false] := by
  show [dv 0 0, dv 1 1] = _
  rw [show dv 0 0 = true from pd_zero, show dv 1 1 = false from pd_one]
/-- between two rounds -/
def Irow (b13 B : Nat) (wr : World) (pre : List (Fin 2)) (W : World) : Prop :=
  (∃ Av cv, Blk W b13 62 #[.slice Av pre.length cv] ∧ W.ownsRow B 4 1 (.slice Av pre.length cv) pre.length (bl (dvs pre))) ∧ Below b13 wr W ∧ B ≤ W.heap.size
theorem irow_own {b13 B : Nat} {wr : World} (h1 : b13 ≤ wr.heap.size) (h2 : b13 ≤ B) : OwnFrom B (Irow b13 B wr) := by
  refine OwnFrom.and ?_ (OwnFrom.and (ownFrom_below h1 h2) (fun _ _ _ _ hs hg _ => Nat.le_trans hs hg.size))
  rintro s W W' row ⟨Av, cv, hk, ho⟩ hg hr
  refine ⟨Av, cv, (hg.block b13 hk.lt (fun e => ?_)).trans hk, ho.kept hg ?_⟩
  · obtain ⟨_, o, h3, h4⟩ := hr b13 e.symm
    rw [show W.heap[b13]? = _ from hk] at h3
    cases h3
    cases h4
  · rcases ho.2 with ⟨hv, _⟩ | ⟨g, cap, cur, hv, _, hgg, _⟩
    · left; rw [hv]; rfl
    · right
      rw [hv]
      intro e
      obtain ⟨_, o, h3, h4⟩ := hr g (by rw [← e]; rfl)
      rw [hgg] at h3
      cases h3
      cases h4
/-- behind a round -/
theorem rnd_fin {b13 B Bs Bn : Nat} {wr W wb w7 : World} {pre : List (Fin 2)} {x : Fin 2} {Av : Option Addr} {cv g' c' : Nat} (hlt : b13 < Bs ∧ Bs < Bn ∧ Bn < B) (hBW : B ≤ W.heap.size)
    (hk : Blk W b13 62 #[.slice Av pre.length cv]) (ho : W.ownsRow B 4 1 (.slice Av pre.length cv) pre.length (bl (dvs pre))) (hb : Below b13 wr W) (h13 : b13 ≤ wr.heap.size)
    (hwb : Below W.heap.size W wb) (hg : wb.grownBy w7 (Value.slice Av pre.length cv).ownBlock) (h7 : w7.ownsRow B 4 1 (.slice (some ⟨g', 0, none⟩) (pre.length + 1) c') (pre.length + 1) (bl (dvs pre) ++ [.bool (dv pre.length x)])) :
    KeepsFrom B W (w7.setCell ⟨b13, 0, none⟩ (.slice (some ⟨g', 0, none⟩) (pre.length + 1) c')) ∧ KpC Bs Bn W (w7.setCell ⟨b13, 0, none⟩ (.slice (some ⟨g', 0, none⟩) (pre.length + 1) c')) ∧ Irow b13 B wr (pre ++ [x]) (w7.setCell ⟨b13, 0, none⟩ (.slice (some ⟨g', 0, none⟩) (pre.length + 1) c')) := by
  have hol : ∀ k, (Value.slice Av pre.length cv).ownBlock = some k → B ≤ k := fun k e => (ho.lt k e).1
  have hsz := hwb.size
  have hs7 := hg.size
  have same : ∀ k, k < W.heap.size → k ≠ b13 → (Value.slice Av pre.length cv).ownBlock ≠ some k → (w7.setCell ⟨b13, 0, none⟩ (.slice (some ⟨g', 0, none⟩) (pre.length + 1) c')).heap[k]? = W.heap[k]? := fun k h1 h2 h3 => by
    rw [Below.heap_setCell w7 ⟨b13, 0, none⟩ _ k h2, hg.block k (by omega) (fun e => h3 e.symm)]
    exact hwb.block k h1
  refine ⟨⟨by simp [World.setCell]; omega, fun k ob hB hob hc => ?_⟩, ⟨same Bs (by omega) (by omega) (fun e => by have := hol _ e; omega), same Bn (by omega) (by omega) (fun e => by have := hol _ e; omega)⟩, ⟨some ⟨g', 0, none⟩, c', ?_, ?_⟩, ?_, by simp [World.setCell]; omega⟩
  · rw [same k (Array.getElem?_eq_some_iff.1 hob).1 (by omega) (fun e => ?_)]
    · exact hob
    · rcases ho.2 with ⟨hv, _⟩ | ⟨g, cap, cur, hv, _, hgg, _⟩
      · rw [hv] at e; cases e
      · rw [hv] at e
        have e : g = k := by simpa [Value.ownBlock] using e
        subst e
        rw [hgg] at hob
        cases hob
        cases hc
  · rw [List.length_append]
    have k7 : Blk w7 b13 62 #[.slice Av pre.length cv] := ((hg.block b13 (by omega) (fun e => by have := hol _ e.symm; omega)).trans (hwb.block b13 (by omega))).trans hk
    simpa using k7.set_ 0 (.slice (some ⟨g', 0, none⟩) (pre.length + 1) c')
  · rw [List.length_append, dvs_push, bl, List.map_append]
    have hlt' := (h7.lt g' rfl).1
    exact own_set h7 (fun e => by have e := (by simpa [Value.ownBlock] using e); omega) _
  · exact ((hb.trans (hwb.mono (by omega))).trans ((show Below b13 wb w7 from ⟨hg.os, hg.tape, hg.output, hg.size, fun k hk2 => hg.block k (by omega) (fun e => by have := hol _ e.symm; omega)⟩))).setCell (p := ⟨b13, 0, none⟩) (Nat.le_refl _) _
/-- the list's cell behind the append -/
theorem rnd_q {b13 B : Nat} {wr W wb w7 : World} {pre : List (Fin 2)} {Av : Option Addr} {cv : Nat} (hk : Blk W b13 62 #[.slice Av pre.length cv]) (ho : W.ownsRow B 4 1 (.slice Av pre.length cv) pre.length (bl (dvs pre))) (hb : Below b13 wr W) (h1 : b13 < B) (hBW : b13 ≤ W.heap.size) (h13 : b13 ≤ wr.heap.size) (hwb : Below W.heap.size W wb) (hg : wb.grownBy w7 (Value.slice Av pre.length cv).ownBlock) :
    w7.cell? ⟨b13, 0, none⟩ = some (.slice Av pre.length cv) ∧ w7.frozen? ⟨b13, 0, none⟩ = false ∧ Below b13 wr w7 := by
  have hol : ∀ k, (Value.slice Av pre.length cv).ownBlock = some k → B ≤ k := fun k e => (ho.lt k e).1
  have hsz := hwb.size
  have hkl := hk.lt
  have k7 : Blk w7 b13 62 #[.slice Av pre.length cv] := ((hg.block b13 (by omega) (fun e => by have := hol _ e.symm; omega)).trans (hwb.block b13 (by omega))).trans hk
  exact ⟨k7.cell 0, k7.frozen 0, (hb.trans (hwb.mono (by omega))).trans (show Below b13 wb w7 from ⟨hg.os, hg.tape, hg.output, hg.size, fun k hk2 => hg.block k (by omega) (fun e => by have := hol _ e.symm; omega)⟩)⟩
theorem KpC.put {Bs Bn l : Nat} {W : World} {o : Obj} (h1 : l ≠ Bs) (h2 : l ≠ Bn) : KpC Bs Bn W (W.putObj l o) :=
  ⟨by simp [World.putObj, Array.getElem?_setIfInBounds, h1], by simp [World.putObj, Array.getElem?_setIfInBounds, h2]⟩
end Go.Proofs.YtcgkkppidkkjiaaGreatDoor
namespace Go.Proofs.YtcgkkppidkkjiaaGreatDoor
open Go.RowKit

theorem il_two {w : World} {A : Option Addr} {a b : Int} (h : Reads w w.heap.size A 2 (il [a, b])) : ∃ ad : Addr, A = some ad ∧ w.cell? ad = some (.int .i64 a) ∧ w.cell? ⟨ad.block, ad.off + 1, none⟩ = some (.int .i64 b) := by
  obtain ⟨ad, rfl, _, h0⟩ := il_at h (show 0 < 2 by omega)
  obtain ⟨ad', e, _, h1⟩ := il_at h (show 1 < 2 by omega)
  injection e with e
  subst e
  exact ⟨ad, rfl, by simpa [Addr.add, ig] using h0, by simpa [Addr.add, ig] using h1⟩
set_option maxRecDepth 100000 in
set_option maxHeartbeats 2000000 in
theorem min_two (A : Option Addr) (c : Nat) (a b : Int) (w : World) (h : Reads w w.heap.size A 2 (il [a, b])) :
    Calls Tryz.prog 58 #[.slice A 2 c] w fun e w' => e = .returned (.int .i64 (min a b)) ∧ w = w' := by
  obtain ⟨ad, rfl, h0, h1⟩ := il_two h
  clear h
  go_enter Tryz.func58, Tryz.ntmps58
  go_wp2_with fail
  refine wp_loop_rounds 2 ?_
  rw [rounds_succ]
  go_wp2
  rw [rounds_succ]
  go_wp2
  go_ret
  exact ⟨rfl, rfl⟩
set_option maxRecDepth 100000 in
set_option maxHeartbeats 2000000 in
theorem max_two (A : Option Addr) (c : Nat) (a b : Int) (w : World) (h : Reads w w.heap.size A 2 (il [a, b])) :
    Calls Tryz.prog 59 #[.slice A 2 c] w fun e w' => e = .returned (.int .i64 (max a b)) ∧ w = w' := by
  obtain ⟨ad, rfl, h0, h1⟩ := il_two h
  clear h
  go_enter Tryz.func59, Tryz.ntmps59
  go_wp2_with fail
  refine wp_loop_rounds 2 ?_
  rw [rounds_succ]
  go_wp2
  rw [rounds_succ]
  go_wp2
  go_ret
  exact ⟨rfl, rfl⟩
set_option maxRecDepth 100000 in
set_option maxHeartbeats 2000000 in
theorem isdef_any (A : Option Addr) (n c k : Nat) (x : Int) (l : List Int) (w : World) (h : Reads w w.heap.size A n (il l)) (hk : k < n) (hn : n ≤ 1000) :
    Calls Tryz.prog 56 #[.slice A n c, .int .i64 (k : Int), .int .i64 x] w fun e w' => e = .returned (.bool (ig l k == x)) ∧ w = w' := by
  obtain ⟨ad, rfl, _, hc⟩ := il_at h hk
  clear h
  generalize ig l k = y at hc ⊢
  have hkI : (k : Int) < (n : Int) := by omega
  have d0 : decide ((k : Int) < 0) = false := decide_eq_false (by omega)
  go_enter Tryz.func56, Tryz.ntmps56
  go_wp2
  go_ret
  exact ⟨rfl, rfl⟩
end Go.Proofs.YtcgkkppidkkjiaaGreatDoor
namespace Go.Proofs.YtcgkkppidkkjiaaGreatDoor
open Go.RowKit

set_option maxRecDepth 100000 in
set_option maxHeartbeats 2000000 in
theorem alls_two (w : World) :
    Calls Tryz.prog 36 #[.int .i64 2] w fun e w' => e = .returned (.slice (some ⟨w.heap.size, 0, none⟩) 2 2) ∧ Blk w' w.heap.size 3 #[.int .i64 0, .int .i64 1] ∧ Below w.heap.size w w' := by
  have mk : (Instr.makeSlice 27 (.int .i64 2) (.int .i64 2)).run Tryz.prog w = .ok (.slice (some ⟨w.heap.size, 0, none⟩) 2 2) (w.alloc (.cells #[.int .i64 0, .int .i64 0] 3)) := mk_ints 2 (by omega) w
  have K := Blk.new w 3 #[.int .i64 0, .int .i64 0]
  have B := (Below.refl w.heap.size w).alloc (Nat.le_refl _) (.cells #[.int .i64 0, .int .i64 0] 3)
  go_enter Tryz.func36, Tryz.ntmps36
  go_wp2_with fail
  generalize w.alloc (.cells #[.int .i64 0, .int .i64 0] 3) = w0 at *
  obtain ⟨c0, c1, f0, f1, hlt⟩ := K.two
  refine wp_loop_rounds 3 ?_
  rw [rounds_succ]
  go_wp2
  rw [rounds_succ]
  go_wp2
  rw [rounds_succ]
  go_wp2
  go_ret
  exact ⟨rfl, (K.set_ 0 _).set_ 1 _, Below.set1 (Below.set1 B (Nat.le_refl _) _) (Nat.le_refl _) _⟩
end Go.Proofs.YtcgkkppidkkjiaaGreatDoor
