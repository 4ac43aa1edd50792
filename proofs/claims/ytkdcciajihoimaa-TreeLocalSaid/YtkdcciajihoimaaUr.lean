/- A list of nodes that grows in a struct. -/
import Derived.Test.YtkdcciajihoimaaOwn
namespace Go.Proofs.Ytkdcciajihoimaa
open Go.RowKit

theorem Blk.three6 {w : World} {g : Nat} {t : TypeId} {a b c : Value} (h : Blk w g t #[a, b, c]) : w.cell? ⟨g, 0, none⟩ = some a ∧ w.cell? ⟨g, 1, none⟩ = some b ∧ w.cell? ⟨g, 2, none⟩ = some c ∧ w.frozen? ⟨g, 0, none⟩ = false ∧ w.frozen? ⟨g, 1, none⟩ = false ∧ w.frozen? ⟨g, 2, none⟩ = false ∧ g < w.heap.size :=
  ⟨by rw [h.cell]; rfl, by rw [h.cell]; rfl, by rw [h.cell]; rfl, h.frozen 0, h.frozen 1, h.frozen 2, h.lt⟩
/-- the cells of a make of states -/
def zs (S : Nat) : Array Value := (il (List.replicate S 0)).toArray
theorem mk_zs {S : Nat} (h1 : 2 ≤ S) (h2 : S ≤ 8) (w : World) : (Instr.makeSlice 26 (.int .i64 (S : Int)) (.int .i64 (S : Int))).run Try.prog w = .ok (.slice (some ⟨w.heap.size, 0, none⟩) S S) (w.alloc (.cells (zs S) 3)) := by
  obtain rfl | rfl | rfl | rfl | rfl | rfl | rfl : S = 2 ∨ S = 3 ∨ S = 4 ∨ S = 5 ∨ S = 6 ∨ S = 7 ∨ S = 8 := by omega
  all_goals kernel_rfl
/-- a growing list of nodes, in a struct -/
def UR (w : World) (base gu : Nat) (s h : Value) (j : Nat) (lv : Nat → Int) (nx : Nat → List Int) : Prop :=
  ∃ gn c xs, Blk w gu 25 #[s, h, .slice (some ⟨gn, 0, none⟩) j c] ∧ gn ≠ gu ∧ w.ownsRow base 30 2 (.slice (some ⟨gn, 0, none⟩) j c) j xs ∧ Inn w (fun b => b = gn ∨ b = gu) xs j lv nx
theorem UR.below {w w' : World} {base gu j : Nat} {s h : Value} {lv : Nat → Int} {nx : Nat → List Int} (hu : UR w base gu s h j lv nx) (hb : Below w.heap.size w w') : UR w' base gu s h j lv nx := by
  obtain ⟨gn, c, xs, h1, h2, h3, h4⟩ := hu
  exact ⟨gn, c, xs, h1.below hb h1.lt, h2, own_below2 h3 hb, h4.below hb⟩

theorem three_blks (w : World) (c1 c2 c3 : Array Value) (t1 t2 t3 : TypeId) :
    Blk (((w.alloc (.cells c1 t1)).alloc (.cells c2 t2)).alloc (.cells c3 t3)) w.heap.size t1 c1 ∧ Blk (((w.alloc (.cells c1 t1)).alloc (.cells c2 t2)).alloc (.cells c3 t3)) (w.heap.size + 1) t2 c2 ∧ Blk (((w.alloc (.cells c1 t1)).alloc (.cells c2 t2)).alloc (.cells c3 t3)) (w.heap.size + 1 + 1) t3 c3 ∧ Below w.heap.size w (((w.alloc (.cells c1 t1)).alloc (.cells c2 t2)).alloc (.cells c3 t3)) := by
  have k2 := Blk.new (w.alloc (.cells c1 t1)) t2 c2
  have k3 := Blk.new ((w.alloc (.cells c1 t1)).alloc (.cells c2 t2)) t3 c3
  simp only [World.size_alloc] at k2 k3
  exact ⟨((Blk.new w t1 c1).alloc _).alloc _, k2.alloc _, k3, (((Below.refl _ _).alloc (Nat.le_refl _) _).alloc (by simp) _).alloc (by simp; omega) _⟩
theorem UR.start {w : World} {base gu gn gz : Nat} {s h : Value} {S : Nat} {lv : Nat → Int} {nx : Nat → List Int} (hz : Blk w gz 3 (zs S)) (hn : Blk w gn 30 #[.int .i64 1, .slice (some ⟨gz, 0, none⟩) S S]) (hu : Blk w gu 25 #[s, h, .slice (some ⟨gn, 0, none⟩) 1 1])
    (hb : base ≤ gn) (h1 : gn ≠ gu) (h2 : gz ≠ gn) (h3 : gz ≠ gu) : UR w base gu s h 1 (lu lv) (xu S lv nx) := by
  refine ⟨gn, 1, [.int .i64 1, .slice (some ⟨gz, 0, none⟩) S S], hu, h1, ⟨by simp, .inr ⟨gn, 1, _, rfl, hb, hn, Nat.le_refl _, by unfold maxLen; omega, by simp, by simp⟩⟩, ?_⟩
  intro k hk
  obtain rfl : k = 0 := by omega
  have hl : (xu S lv nx 0).length = S := by simp [xu]
  rw [hl]
  refine ⟨some ⟨gz, 0, none⟩, S, rfl, rfl, ⟨by simp [il, xu], fun _ => ⟨⟨gz, 0, none⟩, rfl, hz.lt, fun j u hj => ?_⟩⟩, fun _ ad e => ?_⟩
  · have : (⟨gz, 0, none⟩ : Addr).add j = ⟨gz, j, none⟩ := by
      unfold Addr.add
      split
      · next h => subst h; rfl
      · simp
    rw [this, hz.cell, ← hj]
    simp [zs, xu]
  · injection e with e
    subst e
    simp only
    omega
theorem UR.grow {w w7 : World} {base gu gn c j g' c' c2 : Nat} {s h : Value} {lv : Nat → Int} {nx : Nat → List Int} {xs : List Value} {o : Obj} {A : Option Addr}
    (hK : Blk w gu 25 #[s, h, .slice (some ⟨gn, 0, none⟩) j c]) (hne : gn ≠ gu) (hown : w.ownsRow base 30 2 (.slice (some ⟨gn, 0, none⟩) j c) j xs) (hin : Inn w (fun b => b = gn ∨ b = gu) xs j lv nx)
    (hr : Reads w w.heap.size A (nx j).length (il (nx j))) (hA : 0 < (nx j).length → ∀ ad, A = some ad → ¬ (ad.block = gn ∨ ad.block = gu))
    (hown' : w7.ownsRow base 30 2 (.slice (some ⟨g', 0, none⟩) (j + 1) c') (j + 1) (xs ++ [.int .i64 (lv j), .slice A (nx j).length c2]))
    (hg : (w.alloc o).grownBy w7 (Value.slice (some ⟨gn, 0, none⟩) j c).ownBlock) (hat : (Value.slice (some ⟨gn, 0, none⟩) j c).ownBlock = some g' ∨ g' = w.heap.size + 1) :
    UR (w7.setCell ⟨gu, 2, none⟩ (.slice (some ⟨g', 0, none⟩) (j + 1) c')) base gu s h (j + 1) lv nx := by
  have hgn : (Value.slice (some ⟨gn, 0, none⟩) j c).ownBlock = some gn := by simp [Value.ownBlock]
  rw [hgn] at hg hat
  have hlt := hK.lt
  have hsz := hg.size
  simp only [World.size_alloc] at hsz
  have hg2 : g' ≠ gu := by
    rcases hat with e | e
    · injection e with e; omega
    · omega
  have K7 : Blk w7 gu 25 #[s, h, .slice (some ⟨gn, 0, none⟩) j c] := (hg.block gu (by simp; omega) (fun e => by injection e with e; omega)).trans (hK.alloc _)
  refine ⟨g', c', _, K7.set_ 2 _, hg2, own_set hown' (by simp [Value.ownBlock]; exact hg2) _, ?_⟩
  refine (hin.push (by have := hown.1; omega) hr hA).far (by simp [World.setCell]; omega) ?_ ?_
  · intro b hb hG
    rw [Below.heap_setCell _ _ _ _ (fun e => hG (.inr e))]
    rw [hg.block b (by simp; omega) (fun e => by injection e with e; exact hG (.inl e))]
    exact Below.heap_alloc _ _ _ hb
  · intro b hb hG
    rcases hG with e | e
    · subst e
      rcases hat with e | e
      · injection e with e; exact .inl e.symm
      · omega
    · exact .inr e
theorem il_take_succ {l : List Int} {s : Nat} (h : s < l.length) : il (l.take s) ++ [.int .i64 (ig l s)] = il (l.take (s + 1)) := by
  rw [← il_add, List.take_succ_eq_append_getElem h]
  simp [ig, h]
end Go.Proofs.Ytkdcciajihoimaa
