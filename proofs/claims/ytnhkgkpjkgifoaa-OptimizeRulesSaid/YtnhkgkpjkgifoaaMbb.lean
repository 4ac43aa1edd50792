/- The circuit that is optimized in place: what is owned; the walk of moved. -/
import Derived.Test.YtnhkgkpjkgifoaaMba
import Derived.Laws.OwnMore
namespace Go.Proofs.Ytnhkgkpjkgifoaa
open Go.RowKit

/-- the structure with its rows -/
structure WK (wk b0 N : Nat) (gs : List C3) (os ws : List Int) (A O V : Option Addr) (cA cO cV mb : Nat) (w : World) : Prop where
  blk : Blk w wk 73 #[.int .i64 (N : Int), .slice A gs.length cA, .slice O os.length cO, .slice V ws.length cV, .map (some mb)]
  g : w.ownsRow b0 57 3 (.slice A gs.length cA) gs.length (cg gs)
  o : w.ownsRow b0 3 1 (.slice O os.length cO) os.length (il os)
  v : w.ownsRow b0 3 1 (.slice V ws.length cV) ws.length (il ws)
  ov : ∀ k, ob O k → ¬ ob V k
  wb : b0 = wk + 1
/-- the blocks of the structure -/
def TS4 (wk : Nat) (A O V : Option Addr) (k : Nat) : Prop := k = wk ∨ ob A k ∨ ob O k ∨ ob V k
section
variable {wk b0 N : Nat} {gs : List C3} {os ws : List Int} {A O V : Option Addr} {cA cO cV mb : Nat} {w w' : World}
theorem WK.rk (h : WK wk b0 N gs os ws A O V cA cO cV mb w) : RK wk N A cA (.slice O os.length cO) V ws.length cV (.map (some mb)) gs w := ⟨h.blk, creads_cg h.g⟩
theorem WK.vr (h : WK wk b0 N gs os ws A O V cA cO cV mb w) : Reads w w.heap.size V ws.length (il ws) := Reads.of_own h.v
theorem WK.or_ (h : WK wk b0 N gs os ws A O V cA cO cV mb w) : Reads w w.heap.size O os.length (il os) := Reads.of_own h.o
/-- behind what turns none of its blocks -/
theorem WK.keep {G G' : Nat → Prop} (h : WK wk b0 N gs os ws A O V cA cO cV mb w) (hf : Fr G w G' w') (hG : ∀ k, TS4 wk A O V k → ¬ G k) : WK wk b0 N gs os ws A O V cA cO cV mb w' :=
  ⟨hf.blk h.blk (hG _ (.inl rfl)), hf.row h.g (fun k hk => hG k (.inr (.inl (ob_own.2 hk)))), hf.row h.o (fun k hk => hG k (.inr (.inr (.inl (ob_own.2 hk))))), hf.row h.v (fun k hk => hG k (.inr (.inr (.inr (ob_own.2 hk))))), h.ov, h.wb⟩
theorem WK.later (h : WK wk b0 N gs os ws A O V cA cO cV mb w) (hb : Below w.heap.size w w') : WK wk b0 N gs os ws A O V cA cO cV mb w' := h.keep (G := fun _ => False) (G' := fun _ => False) (Fr.of_below hb) (fun _ _ h => h)
/-- its blocks hold cells -/
theorem WK.cells (h : WK wk b0 N gs os ws A O V cA cO cV mb w) : ∀ k, TS4 wk A O V k → ∃ c t f, w.heap[k]? = some (.cells c t f) := fun k hk => by
  have row : ∀ {e : TypeId} {s n c : Nat} {B : Option Addr} {xs : List Value}, w.ownsRow b0 e s (.slice B n c) n xs → ob B k → ∃ c t f, w.heap[k]? = some (.cells c t f) := fun hr hk => by
    rcases hr.2 with ⟨hv, _⟩ | ⟨g, cap, cur, hv, _, hg, _⟩
    · injection hv with e1; subst e1; cases hk
    · injection hv with e1
      subst e1
      have q : g = k := by simpa [ob, Value.ownBlock] using hk
      subst q
      exact ⟨_, _, _, hg⟩
  rcases hk with rfl | hk | hk | hk
  · exact ⟨_, _, _, h.blk⟩
  · exact row h.g hk
  · exact row h.o hk
  · exact row h.v hk
theorem WK.ge (h : WK wk b0 N gs os ws A O V cA cO cV mb w) : ∀ k, TS4 wk A O V k → wk ≤ k ∧ k < w.heap.size := fun k hk => by
  have := h.wb
  rcases hk with rfl | hk | hk | hk
  · exact ⟨Nat.le_refl _, h.blk.lt⟩
  · have := ob_ge h.g k hk; omega
  · have := ob_ge h.o k hk; omega
  · have := ob_ge h.v k hk; omega
theorem WK.lb (h : WK wk b0 N gs os ws A O V cA cO cV mb w) : ¬ ob A wk ∧ ¬ ob O wk ∧ ¬ ob V wk := by
  have := h.wb
  exact ⟨fun e => by have := (ob_ge h.g wk e).1; omega, fun e => by have := (ob_ge h.o wk e).1; omega, fun e => by have := (ob_ge h.v wk e).1; omega⟩
theorem WK.ag (h : WK wk b0 N gs os ws A O V cA cO cV mb w) : (∀ k, ob A k → ¬ ob O k) ∧ (∀ k, ob A k → ¬ ob V k) :=
  ⟨fun k h1 h2 => own_ne2 h.g h.o (by decide) (ob_own.1 h1) (ob_own.1 h2), fun k h1 h2 => own_ne2 h.g h.v (by decide) (ob_own.1 h1) (ob_own.1 h2)⟩
/-- a wire more -/
theorem WK.push {g' c' : Nat} {x : Int} {w5 : World} (h : WK wk b0 N gs os ws A O V cA cO cV mb w) (hown : w5.ownsRow b0 3 1 (.slice (some ⟨g', 0, none⟩) (ws.length + 1) c') (ws.length + 1) (il ws ++ [.int .i64 x])) (F : Fr (ob V) w (ob (some ⟨g', 0, none⟩)) w5) :
    WK wk b0 N gs os (ws ++ [x]) A O (some ⟨g', 0, none⟩) cA cO c' mb (w5.setCell ⟨wk, 3, none⟩ (.slice (some ⟨g', 0, none⟩) (ws.length + 1) c')) ∧ Fr (TS4 wk A O V) w (TS4 wk A O (some ⟨g', 0, none⟩)) (w5.setCell ⟨wk, 3, none⟩ (.slice (some ⟨g', 0, none⟩) (ws.length + 1) c')) := by
  have hb := h.wb
  obtain ⟨l1, l2, l3⟩ := h.lb
  obtain ⟨a1, a2⟩ := h.ag
  have B5 := F.blk h.blk l3
  have G5 := F.row h.g (fun k hk e => a2 k (ob_own.2 hk) e)
  have O5 := F.row h.o (fun k hk e => h.ov k (ob_own.2 hk) e)
  have far : ∀ {e : TypeId} {s n c : Nat} {B : Option Addr} {xs : List Value}, w5.ownsRow b0 e s (.slice B n c) n xs → (w5.setCell ⟨wk, 3, none⟩ (.slice (some ⟨g', 0, none⟩) (ws.length + 1) c')).ownsRow b0 e s (.slice B n c) n xs := fun hr => own_set hr (fun e => by have := (hr.lt _ e).1; simp at this; omega) _
  refine ⟨⟨?_, far G5, far O5, ?_, fun k hk hk' => ?_, hb⟩, ?_⟩
  · have := B5.set_ 3 (.slice (some ⟨g', 0, none⟩) (ws.length + 1) c')
    simpa using this
  · rw [List.length_append, List.length_singleton]
    have e : il (ws ++ [x]) = il ws ++ [.int .i64 x] := by simp [il]
    rw [e]
    exact far hown
  · rcases F.new k hk' with q | q
    · exact h.ov k hk q
    · have := (ob_ge h.o k hk).2; omega
  · refine (F.weak (H := TS4 wk A O V) (H' := TS4 wk A O (some ⟨g', 0, none⟩)) (fun k hk => .inr (.inr (.inr hk))) (fun k hk => ?_)).trans (Fr.set_ w5 (p := ⟨wk, 3, none⟩) _ (.inl rfl))
    rcases hk with q | q | q | q
    · exact .inl (.inl q)
    · exact .inl (.inr (.inl q))
    · exact .inl (.inr (.inr (.inl q)))
    · exact (F.new k q).imp (fun q => .inr (.inr (.inr q))) id
/-- no wires -/
theorem WK.cut (h : WK wk b0 N gs os ws A O V cA cO cV mb w) :
    WK wk b0 N gs os [] A O V cA cO cV mb (w.setCell ⟨wk, 3, none⟩ (.slice V 0 cV)) ∧ Fr (TS4 wk A O V) w (TS4 wk A O V) (w.setCell ⟨wk, 3, none⟩ (.slice V 0 cV)) := by
  have hb := h.wb
  have far : ∀ {e : TypeId} {s n c : Nat} {B : Option Addr} {xs : List Value}, w.ownsRow b0 e s (.slice B n c) n xs → (w.setCell ⟨wk, 3, none⟩ (.slice V 0 cV)).ownsRow b0 e s (.slice B n c) n xs := fun hr => own_set hr (fun e => by have := (hr.lt _ e).1; simp at this; omega) _
  have v0 : w.ownsRow b0 3 1 (.slice V 0 cV) 0 (il []) := by
    refine ⟨rfl, ?_⟩
    rcases h.v.2 with ⟨hv, h2⟩ | ⟨g, cap, cur, hv, hbg, hg, h3, h4, h5, h6⟩
    · injection hv with e1 e2 e3
      subst e1 e3
      exact .inl ⟨rfl, rfl⟩
    · injection hv with e1 e2 e3
      subst e1 e3
      exact .inr ⟨g, cV, cur, rfl, hbg, hg, by omega, h4, h5, by simp [il]⟩
  refine ⟨⟨?_, far h.g, far h.o, far v0, h.ov, hb⟩, Fr.set_ w (p := ⟨wk, 3, none⟩) _ (.inl rfl)⟩
  have := h.blk.set_ 3 (.slice V 0 cV)
  simpa using this
end
section
variable {wk N cA cV : Nat} {A V : Option Addr} {O M : Value} {gs : List C3} {ws : List Int} {w : World}
set_option maxRecDepth 100000 in
set_option maxHeartbeats 4000000 in
theorem moved_0 (h : RK wk N A cA O V ws.length cV M gs w) (hv : Reads w w.heap.size V ws.length (il ws)) (a b : Int) :
    Calls Try.prog 91 #[.pointer (some ⟨wk, 0, none⟩), .agg #[.int .i64 0, .int .i64 a, .int .i64 b]] w fun e w' => e = .returned (.agg #[.int .i64 0, .int .i64 a, .int .i64 b]) ∧ Below w.heap.size w w' := by
  obtain ⟨_, _, _, c3, _, c5⟩ := h.blk.five
  have K5 := (Blk.new w 57 #[.int .i64 0, .int .i64 a, .int .i64 b]).alloc (.cells #[.int .i64 0, .int .i64 0, .int .i64 0] 57)
  have K8 := Blk.new (w.alloc (.cells #[.int .i64 0, .int .i64 a, .int .i64 b] 57)) 57 #[.int .i64 0, .int .i64 0, .int .i64 0]
  rw [World.size_alloc] at K8
  have B0 : Below w.heap.size w ((w.alloc (.cells #[.int .i64 0, .int .i64 a, .int .i64 b] 57)).alloc (.cells #[.int .i64 0, .int .i64 0, .int .i64 0] 57)) := ((Below.refl _ w).alloc (Nat.le_refl _) _).alloc (by simp) _
  have Z3 := Lib.hid (fun w' (hb : Below w.heap.size w w') => (hb.cell (p := ⟨wk, 3, none⟩) c5).trans c3)
  generalize ws.length = nv at *
  clear h hv c3 c5
  go_enter Try.func91, Try.ntmps91
  go_upto_region 1 with (fail)
  generalize (w.alloc (.cells #[.int .i64 0, .int .i64 a, .int .i64 b] 57)).alloc (.cells #[.int .i64 0, .int .i64 0, .int .i64 0] 57) = w1 at *
  obtain ⟨a0, a1, a2, a3, a4, a5, a6⟩ := K5.three6
  obtain ⟨r0, r1, r2, r3, r4, r5, r6⟩ := K8.three6
  go_wp2
  have KZ := K8.tri (.int .i64 0) (.int .i64 a) (.int .i64 b)
  obtain ⟨e0, e1', e2, _, _, _, _⟩ := KZ.three6
  exact bodyPost_ret (v := .agg #[.int .i64 0, .int .i64 a, .int .i64 b]) (by simp [results, Try.results91, go_sem, e0, e1', e2]) rfl ⟨rfl, ((B0.setCell (p := ⟨w.heap.size + 1, 0, none⟩) (Nat.le_succ _) _).setCell (p := ⟨w.heap.size + 1, 1, none⟩) (Nat.le_succ _) _).setCell (p := ⟨w.heap.size + 1, 2, none⟩) (Nat.le_succ _) _⟩
set_option maxRecDepth 100000 in
set_option maxHeartbeats 4000000 in
theorem moved_1 (h : RK wk N A cA O V ws.length cV M gs w) (hv : Reads w w.heap.size V ws.length (il ws)) (a b : Int) :
    Calls Try.prog 91 #[.pointer (some ⟨wk, 0, none⟩), .agg #[.int .i64 1, .int .i64 a, .int .i64 b]] w fun e w' => e = .returned (.agg #[.int .i64 1, .int .i64 a, .int .i64 b]) ∧ Below w.heap.size w w' := by
  obtain ⟨_, _, _, c3, _, c5⟩ := h.blk.five
  have K5 := (Blk.new w 57 #[.int .i64 1, .int .i64 a, .int .i64 b]).alloc (.cells #[.int .i64 0, .int .i64 0, .int .i64 0] 57)
  have K8 := Blk.new (w.alloc (.cells #[.int .i64 1, .int .i64 a, .int .i64 b] 57)) 57 #[.int .i64 0, .int .i64 0, .int .i64 0]
  rw [World.size_alloc] at K8
  have B0 : Below w.heap.size w ((w.alloc (.cells #[.int .i64 1, .int .i64 a, .int .i64 b] 57)).alloc (.cells #[.int .i64 0, .int .i64 0, .int .i64 0] 57)) := ((Below.refl _ w).alloc (Nat.le_refl _) _).alloc (by simp) _
  have Z3 := Lib.hid (fun w' (hb : Below w.heap.size w w') => (hb.cell (p := ⟨wk, 3, none⟩) c5).trans c3)
  generalize ws.length = nv at *
  clear h hv c3 c5
  go_enter Try.func91, Try.ntmps91
  go_upto_region 1 with (fail)
  generalize (w.alloc (.cells #[.int .i64 1, .int .i64 a, .int .i64 b] 57)).alloc (.cells #[.int .i64 0, .int .i64 0, .int .i64 0] 57) = w1 at *
  obtain ⟨a0, a1, a2, a3, a4, a5, a6⟩ := K5.three6
  obtain ⟨r0, r1, r2, r3, r4, r5, r6⟩ := K8.three6
  go_wp2
  have KZ := K8.tri (.int .i64 1) (.int .i64 a) (.int .i64 b)
  obtain ⟨e0, e1', e2, _, _, _, _⟩ := KZ.three6
  exact bodyPost_ret (v := .agg #[.int .i64 1, .int .i64 a, .int .i64 b]) (by simp [results, Try.results91, go_sem, e0, e1', e2]) rfl ⟨rfl, ((B0.setCell (p := ⟨w.heap.size + 1, 0, none⟩) (Nat.le_succ _) _).setCell (p := ⟨w.heap.size + 1, 1, none⟩) (Nat.le_succ _) _).setCell (p := ⟨w.heap.size + 1, 2, none⟩) (Nat.le_succ _) _⟩
set_option maxRecDepth 100000 in
set_option maxHeartbeats 4000000 in
theorem moved_2 (h : RK wk N A cA O V ws.length cV M gs w) (hv : Reads w w.heap.size V ws.length (il ws)) (b : Int) (k : Nat) (hk : k < ws.length) :
    Calls Try.prog 91 #[.pointer (some ⟨wk, 0, none⟩), .agg #[.int .i64 2, .int .i64 (k : Int), .int .i64 b]] w fun e w' => e = .returned (.agg #[.int .i64 2, .int .i64 (ig ws k), .int .i64 b]) ∧ Below w.heap.size w w' := by
  obtain ⟨_, _, _, c3, _, c5⟩ := h.blk.five
  have K5 := (Blk.new w 57 #[.int .i64 2, .int .i64 (k : Int), .int .i64 b]).alloc (.cells #[.int .i64 0, .int .i64 0, .int .i64 0] 57)
  have K8 := Blk.new (w.alloc (.cells #[.int .i64 2, .int .i64 (k : Int), .int .i64 b] 57)) 57 #[.int .i64 0, .int .i64 0, .int .i64 0]
  rw [World.size_alloc] at K8
  have B0 : Below w.heap.size w ((w.alloc (.cells #[.int .i64 2, .int .i64 (k : Int), .int .i64 b] 57)).alloc (.cells #[.int .i64 0, .int .i64 0, .int .i64 0] 57)) := ((Below.refl _ w).alloc (Nat.le_refl _) _).alloc (by simp) _
  have Z3 := Lib.hid (fun w' (hb : Below w.heap.size w w') => (hb.cell (p := ⟨wk, 3, none⟩) c5).trans c3)
  obtain ⟨ad, hA, had, xk⟩ := il_at hv hk
  subst hA
  have YK := Lib.hid (fun w' (hb : Below w.heap.size w w') => (hb.cell (p := ad.add k) (by rw [block_of_add]; exact had)).trans xk)
  generalize ig ws k = x at *
  generalize ws.length = nv at *
  have kI : (k : Int) < (nv : Int) := by omega
  clear h hv c3 c5 xk
  go_enter Try.func91, Try.ntmps91
  go_upto_region 1 with (fail)
  generalize (w.alloc (.cells #[.int .i64 2, .int .i64 (k : Int), .int .i64 b] 57)).alloc (.cells #[.int .i64 0, .int .i64 0, .int .i64 0] 57) = w1 at *
  obtain ⟨a0, a1, a2, a3, a4, a5, a6⟩ := K5.three6
  have z3 := Z3.out _ B0
  have y1 := YK.out _ B0
  go_upto_region 7 with (fail)
  go_region
  all_goals
    go_upto_region 8 with (fail)
    have K5s := Blk.drew (K5.set_ 1 (.int .i64 x))
    have K8s := Blk.drew (K8.far (p := ⟨w.heap.size, 1, none⟩) (by show w.heap.size + 1 ≠ w.heap.size; omega) (.int .i64 x))
    have Bs := Below.drew (B0.setCell (p := ⟨w.heap.size, 1, none⟩) (Nat.le_refl _) (.int .i64 x))
    generalize (w1.setCell ⟨w.heap.size, 1, none⟩ (.int .i64 x)).drew = w3 at *
    have w3K5 : Blk w3 w.heap.size 57 #[.int .i64 2, .int .i64 x, .int .i64 b] := K5s
    have w3K8 := K8s
    have w3B := Bs
    clear K5s K8s Bs K5 K8 B0 z3 y1 a0 a1 a2 a3 a4 a5 a6
    obtain ⟨a0, a1, a2, a3, a4, a5, a6⟩ := w3K5.three6
    obtain ⟨r0, r1, r2, r3, r4, r5, r6⟩ := w3K8.three6
    go_wp2
    have KZ := w3K8.tri (.int .i64 2) (.int .i64 x) (.int .i64 b)
    obtain ⟨e0, e1', e2, _, _, _, _⟩ := KZ.three6
    exact bodyPost_ret (v := .agg #[.int .i64 2, .int .i64 x, .int .i64 b]) (by simp [results, Try.results91, go_sem, e0, e1', e2]) rfl ⟨rfl, ((w3B.setCell (p := ⟨w.heap.size + 1, 0, none⟩) (Nat.le_succ _) _).setCell (p := ⟨w.heap.size + 1, 1, none⟩) (Nat.le_succ _) _).setCell (p := ⟨w.heap.size + 1, 2, none⟩) (Nat.le_succ _) _⟩
set_option maxRecDepth 100000 in
set_option maxHeartbeats 4000000 in
theorem moved_3 (h : RK wk N A cA O V ws.length cV M gs w) (hv : Reads w w.heap.size V ws.length (il ws)) (k : Nat) (hk : k < ws.length) (j : Nat) (hj : j < ws.length) :
    Calls Try.prog 91 #[.pointer (some ⟨wk, 0, none⟩), .agg #[.int .i64 3, .int .i64 (k : Int), .int .i64 (j : Int)]] w fun e w' => e = .returned (.agg #[.int .i64 3, .int .i64 (ig ws k), .int .i64 (ig ws j)]) ∧ Below w.heap.size w w' := by
  obtain ⟨_, _, _, c3, _, c5⟩ := h.blk.five
  have K5 := (Blk.new w 57 #[.int .i64 3, .int .i64 (k : Int), .int .i64 (j : Int)]).alloc (.cells #[.int .i64 0, .int .i64 0, .int .i64 0] 57)
  have K8 := Blk.new (w.alloc (.cells #[.int .i64 3, .int .i64 (k : Int), .int .i64 (j : Int)] 57)) 57 #[.int .i64 0, .int .i64 0, .int .i64 0]
  rw [World.size_alloc] at K8
  have B0 : Below w.heap.size w ((w.alloc (.cells #[.int .i64 3, .int .i64 (k : Int), .int .i64 (j : Int)] 57)).alloc (.cells #[.int .i64 0, .int .i64 0, .int .i64 0] 57)) := ((Below.refl _ w).alloc (Nat.le_refl _) _).alloc (by simp) _
  have Z3 := Lib.hid (fun w' (hb : Below w.heap.size w w') => (hb.cell (p := ⟨wk, 3, none⟩) c5).trans c3)
  obtain ⟨ad, hA, had, xk⟩ := il_at hv hk
  subst hA
  have YK := Lib.hid (fun w' (hb : Below w.heap.size w w') => (hb.cell (p := ad.add k) (by rw [block_of_add]; exact had)).trans xk)
  generalize ig ws k = x at *
  obtain ⟨ad', hA', _, xj⟩ := il_at hv hj
  injection hA' with hA'
  subst hA'
  have YJ := Lib.hid (fun w' (hb : Below w.heap.size w w') => (hb.cell (p := ad.add j) (by rw [block_of_add]; exact had)).trans xj)
  generalize ig ws j = y at *
  generalize ws.length = nv at *
  have kI : (k : Int) < (nv : Int) := by omega
  have jI : (j : Int) < (nv : Int) := by omega
  clear h hv c3 c5 xk xj
  go_enter Try.func91, Try.ntmps91
  go_upto_region 1 with (fail)
  generalize (w.alloc (.cells #[.int .i64 3, .int .i64 (k : Int), .int .i64 (j : Int)] 57)).alloc (.cells #[.int .i64 0, .int .i64 0, .int .i64 0] 57) = w1 at *
  obtain ⟨a0, a1, a2, a3, a4, a5, a6⟩ := K5.three6
  have z3 := Z3.out _ B0
  have y2 := YJ.out _ B0
  go_upto_region 6 with (fail)
  go_region
  all_goals
    go_upto_region 7 with (fail)
    have K5s := Blk.drew (K5.set_ 2 (.int .i64 y))
    have K8s := Blk.drew (K8.far (p := ⟨w.heap.size, 2, none⟩) (by show w.heap.size + 1 ≠ w.heap.size; omega) (.int .i64 y))
    have Bs := Below.drew (B0.setCell (p := ⟨w.heap.size, 2, none⟩) (Nat.le_refl _) (.int .i64 y))
    generalize (w1.setCell ⟨w.heap.size, 2, none⟩ (.int .i64 y)).drew = w2 at *
    have w2K5 : Blk w2 w.heap.size 57 #[.int .i64 3, .int .i64 (k : Int), .int .i64 y] := K5s
    have w2K8 := K8s
    have w2B := Bs
    clear K5s K8s Bs K5 K8 B0 z3 y2 a0 a1 a2 a3 a4 a5 a6
    obtain ⟨a0, a1, a2, a3, a4, a5, a6⟩ := w2K5.three6
    have z3 := Z3.out _ w2B
    have y1 := YK.out _ w2B
    go_upto_region 7 with (fail)
    go_region
    all_goals
      go_upto_region 8 with (fail)
      have K5s := Blk.drew (w2K5.set_ 1 (.int .i64 x))
      have K8s := Blk.drew (w2K8.far (p := ⟨w.heap.size, 1, none⟩) (by show w.heap.size + 1 ≠ w.heap.size; omega) (.int .i64 x))
      have Bs := Below.drew (w2B.setCell (p := ⟨w.heap.size, 1, none⟩) (Nat.le_refl _) (.int .i64 x))
      generalize (w2.setCell ⟨w.heap.size, 1, none⟩ (.int .i64 x)).drew = w3 at *
      have w3K5 : Blk w3 w.heap.size 57 #[.int .i64 3, .int .i64 x, .int .i64 y] := K5s
      have w3K8 := K8s
      have w3B := Bs
      clear K5s K8s Bs w2K5 w2K8 w2B z3 y1 a0 a1 a2 a3 a4 a5 a6
      obtain ⟨a0, a1, a2, a3, a4, a5, a6⟩ := w3K5.three6
      obtain ⟨r0, r1, r2, r3, r4, r5, r6⟩ := w3K8.three6
      go_wp2
      have KZ := w3K8.tri (.int .i64 3) (.int .i64 x) (.int .i64 y)
      obtain ⟨e0, e1', e2, _, _, _, _⟩ := KZ.three6
      exact bodyPost_ret (v := .agg #[.int .i64 3, .int .i64 x, .int .i64 y]) (by simp [results, Try.results91, go_sem, e0, e1', e2]) rfl ⟨rfl, ((w3B.setCell (p := ⟨w.heap.size + 1, 0, none⟩) (Nat.le_succ _) _).setCell (p := ⟨w.heap.size + 1, 1, none⟩) (Nat.le_succ _) _).setCell (p := ⟨w.heap.size + 1, 2, none⟩) (Nat.le_succ _) _⟩
set_option maxRecDepth 100000 in
set_option maxHeartbeats 4000000 in
theorem moved_4 (h : RK wk N A cA O V ws.length cV M gs w) (hv : Reads w w.heap.size V ws.length (il ws)) (k : Nat) (hk : k < ws.length) (j : Nat) (hj : j < ws.length) :
    Calls Try.prog 91 #[.pointer (some ⟨wk, 0, none⟩), .agg #[.int .i64 4, .int .i64 (k : Int), .int .i64 (j : Int)]] w fun e w' => e = .returned (.agg #[.int .i64 4, .int .i64 (ig ws k), .int .i64 (ig ws j)]) ∧ Below w.heap.size w w' := by
  obtain ⟨_, _, _, c3, _, c5⟩ := h.blk.five
  have K5 := (Blk.new w 57 #[.int .i64 4, .int .i64 (k : Int), .int .i64 (j : Int)]).alloc (.cells #[.int .i64 0, .int .i64 0, .int .i64 0] 57)
  have K8 := Blk.new (w.alloc (.cells #[.int .i64 4, .int .i64 (k : Int), .int .i64 (j : Int)] 57)) 57 #[.int .i64 0, .int .i64 0, .int .i64 0]
  rw [World.size_alloc] at K8
  have B0 : Below w.heap.size w ((w.alloc (.cells #[.int .i64 4, .int .i64 (k : Int), .int .i64 (j : Int)] 57)).alloc (.cells #[.int .i64 0, .int .i64 0, .int .i64 0] 57)) := ((Below.refl _ w).alloc (Nat.le_refl _) _).alloc (by simp) _
  have Z3 := Lib.hid (fun w' (hb : Below w.heap.size w w') => (hb.cell (p := ⟨wk, 3, none⟩) c5).trans c3)
  obtain ⟨ad, hA, had, xk⟩ := il_at hv hk
  subst hA
  have YK := Lib.hid (fun w' (hb : Below w.heap.size w w') => (hb.cell (p := ad.add k) (by rw [block_of_add]; exact had)).trans xk)
  generalize ig ws k = x at *
  obtain ⟨ad', hA', _, xj⟩ := il_at hv hj
  injection hA' with hA'
  subst hA'
  have YJ := Lib.hid (fun w' (hb : Below w.heap.size w w') => (hb.cell (p := ad.add j) (by rw [block_of_add]; exact had)).trans xj)
  generalize ig ws j = y at *
  generalize ws.length = nv at *
  have kI : (k : Int) < (nv : Int) := by omega
  have jI : (j : Int) < (nv : Int) := by omega
  clear h hv c3 c5 xk xj
  go_enter Try.func91, Try.ntmps91
  go_upto_region 1 with (fail)
  generalize (w.alloc (.cells #[.int .i64 4, .int .i64 (k : Int), .int .i64 (j : Int)] 57)).alloc (.cells #[.int .i64 0, .int .i64 0, .int .i64 0] 57) = w1 at *
  obtain ⟨a0, a1, a2, a3, a4, a5, a6⟩ := K5.three6
  have z3 := Z3.out _ B0
  have y2 := YJ.out _ B0
  go_upto_region 6 with (fail)
  go_region
  all_goals
    go_upto_region 7 with (fail)
    have K5s := Blk.drew (K5.set_ 2 (.int .i64 y))
    have K8s := Blk.drew (K8.far (p := ⟨w.heap.size, 2, none⟩) (by show w.heap.size + 1 ≠ w.heap.size; omega) (.int .i64 y))
    have Bs := Below.drew (B0.setCell (p := ⟨w.heap.size, 2, none⟩) (Nat.le_refl _) (.int .i64 y))
    generalize (w1.setCell ⟨w.heap.size, 2, none⟩ (.int .i64 y)).drew = w2 at *
    have w2K5 : Blk w2 w.heap.size 57 #[.int .i64 4, .int .i64 (k : Int), .int .i64 y] := K5s
    have w2K8 := K8s
    have w2B := Bs
    clear K5s K8s Bs K5 K8 B0 z3 y2 a0 a1 a2 a3 a4 a5 a6
    obtain ⟨a0, a1, a2, a3, a4, a5, a6⟩ := w2K5.three6
    have z3 := Z3.out _ w2B
    have y1 := YK.out _ w2B
    go_upto_region 7 with (fail)
    go_region
    all_goals
      go_upto_region 8 with (fail)
      have K5s := Blk.drew (w2K5.set_ 1 (.int .i64 x))
      have K8s := Blk.drew (w2K8.far (p := ⟨w.heap.size, 1, none⟩) (by show w.heap.size + 1 ≠ w.heap.size; omega) (.int .i64 x))
      have Bs := Below.drew (w2B.setCell (p := ⟨w.heap.size, 1, none⟩) (Nat.le_refl _) (.int .i64 x))
      generalize (w2.setCell ⟨w.heap.size, 1, none⟩ (.int .i64 x)).drew = w3 at *
      have w3K5 : Blk w3 w.heap.size 57 #[.int .i64 4, .int .i64 x, .int .i64 y] := K5s
      have w3K8 := K8s
      have w3B := Bs
      clear K5s K8s Bs w2K5 w2K8 w2B z3 y1 a0 a1 a2 a3 a4 a5 a6
      obtain ⟨a0, a1, a2, a3, a4, a5, a6⟩ := w3K5.three6
      obtain ⟨r0, r1, r2, r3, r4, r5, r6⟩ := w3K8.three6
      go_wp2
      have KZ := w3K8.tri (.int .i64 4) (.int .i64 x) (.int .i64 y)
      obtain ⟨e0, e1', e2, _, _, _, _⟩ := KZ.three6
      exact bodyPost_ret (v := .agg #[.int .i64 4, .int .i64 x, .int .i64 y]) (by simp [results, Try.results91, go_sem, e0, e1', e2]) rfl ⟨rfl, ((w3B.setCell (p := ⟨w.heap.size + 1, 0, none⟩) (Nat.le_succ _) _).setCell (p := ⟨w.heap.size + 1, 1, none⟩) (Nat.le_succ _) _).setCell (p := ⟨w.heap.size + 1, 2, none⟩) (Nat.le_succ _) _⟩
set_option maxRecDepth 100000 in
set_option maxHeartbeats 4000000 in
theorem moved_5 (h : RK wk N A cA O V ws.length cV M gs w) (hv : Reads w w.heap.size V ws.length (il ws)) (k : Nat) (hk : k < ws.length) (j : Nat) (hj : j < ws.length) :
    Calls Try.prog 91 #[.pointer (some ⟨wk, 0, none⟩), .agg #[.int .i64 5, .int .i64 (k : Int), .int .i64 (j : Int)]] w fun e w' => e = .returned (.agg #[.int .i64 5, .int .i64 (ig ws k), .int .i64 (ig ws j)]) ∧ Below w.heap.size w w' := by
  obtain ⟨_, _, _, c3, _, c5⟩ := h.blk.five
  have K5 := (Blk.new w 57 #[.int .i64 5, .int .i64 (k : Int), .int .i64 (j : Int)]).alloc (.cells #[.int .i64 0, .int .i64 0, .int .i64 0] 57)
  have K8 := Blk.new (w.alloc (.cells #[.int .i64 5, .int .i64 (k : Int), .int .i64 (j : Int)] 57)) 57 #[.int .i64 0, .int .i64 0, .int .i64 0]
  rw [World.size_alloc] at K8
  have B0 : Below w.heap.size w ((w.alloc (.cells #[.int .i64 5, .int .i64 (k : Int), .int .i64 (j : Int)] 57)).alloc (.cells #[.int .i64 0, .int .i64 0, .int .i64 0] 57)) := ((Below.refl _ w).alloc (Nat.le_refl _) _).alloc (by simp) _
  have Z3 := Lib.hid (fun w' (hb : Below w.heap.size w w') => (hb.cell (p := ⟨wk, 3, none⟩) c5).trans c3)
  obtain ⟨ad, hA, had, xk⟩ := il_at hv hk
  subst hA
  have YK := Lib.hid (fun w' (hb : Below w.heap.size w w') => (hb.cell (p := ad.add k) (by rw [block_of_add]; exact had)).trans xk)
  generalize ig ws k = x at *
  obtain ⟨ad', hA', _, xj⟩ := il_at hv hj
  injection hA' with hA'
  subst hA'
  have YJ := Lib.hid (fun w' (hb : Below w.heap.size w w') => (hb.cell (p := ad.add j) (by rw [block_of_add]; exact had)).trans xj)
  generalize ig ws j = y at *
  generalize ws.length = nv at *
  have kI : (k : Int) < (nv : Int) := by omega
  have jI : (j : Int) < (nv : Int) := by omega
  clear h hv c3 c5 xk xj
  go_enter Try.func91, Try.ntmps91
  go_upto_region 1 with (fail)
  generalize (w.alloc (.cells #[.int .i64 5, .int .i64 (k : Int), .int .i64 (j : Int)] 57)).alloc (.cells #[.int .i64 0, .int .i64 0, .int .i64 0] 57) = w1 at *
  obtain ⟨a0, a1, a2, a3, a4, a5, a6⟩ := K5.three6
  have z3 := Z3.out _ B0
  have y2 := YJ.out _ B0
  go_upto_region 6 with (fail)
  go_region
  all_goals
    go_upto_region 7 with (fail)
    have K5s := Blk.drew (K5.set_ 2 (.int .i64 y))
    have K8s := Blk.drew (K8.far (p := ⟨w.heap.size, 2, none⟩) (by show w.heap.size + 1 ≠ w.heap.size; omega) (.int .i64 y))
    have Bs := Below.drew (B0.setCell (p := ⟨w.heap.size, 2, none⟩) (Nat.le_refl _) (.int .i64 y))
    generalize (w1.setCell ⟨w.heap.size, 2, none⟩ (.int .i64 y)).drew = w2 at *
    have w2K5 : Blk w2 w.heap.size 57 #[.int .i64 5, .int .i64 (k : Int), .int .i64 y] := K5s
    have w2K8 := K8s
    have w2B := Bs
    clear K5s K8s Bs K5 K8 B0 z3 y2 a0 a1 a2 a3 a4 a5 a6
    obtain ⟨a0, a1, a2, a3, a4, a5, a6⟩ := w2K5.three6
    have z3 := Z3.out _ w2B
    have y1 := YK.out _ w2B
    go_upto_region 7 with (fail)
    go_region
    all_goals
      go_upto_region 8 with (fail)
      have K5s := Blk.drew (w2K5.set_ 1 (.int .i64 x))
      have K8s := Blk.drew (w2K8.far (p := ⟨w.heap.size, 1, none⟩) (by show w.heap.size + 1 ≠ w.heap.size; omega) (.int .i64 x))
      have Bs := Below.drew (w2B.setCell (p := ⟨w.heap.size, 1, none⟩) (Nat.le_refl _) (.int .i64 x))
      generalize (w2.setCell ⟨w.heap.size, 1, none⟩ (.int .i64 x)).drew = w3 at *
      have w3K5 : Blk w3 w.heap.size 57 #[.int .i64 5, .int .i64 x, .int .i64 y] := K5s
      have w3K8 := K8s
      have w3B := Bs
      clear K5s K8s Bs w2K5 w2K8 w2B z3 y1 a0 a1 a2 a3 a4 a5 a6
      obtain ⟨a0, a1, a2, a3, a4, a5, a6⟩ := w3K5.three6
      obtain ⟨r0, r1, r2, r3, r4, r5, r6⟩ := w3K8.three6
      go_wp2
      have KZ := w3K8.tri (.int .i64 5) (.int .i64 x) (.int .i64 y)
      obtain ⟨e0, e1', e2, _, _, _, _⟩ := KZ.three6
      exact bodyPost_ret (v := .agg #[.int .i64 5, .int .i64 x, .int .i64 y]) (by simp [results, Try.results91, go_sem, e0, e1', e2]) rfl ⟨rfl, ((w3B.setCell (p := ⟨w.heap.size + 1, 0, none⟩) (Nat.le_succ _) _).setCell (p := ⟨w.heap.size + 1, 1, none⟩) (Nat.le_succ _) _).setCell (p := ⟨w.heap.size + 1, 2, none⟩) (Nat.le_succ _) _⟩
theorem moved_any (h : RK wk N A cA O V ws.length cV M gs w) (hv : Reads w w.heap.size V ws.length (il ws)) (g : C3) (hg : rg g (ws.length : Int) = true) :
    Calls Try.prog 91 #[.pointer (some ⟨wk, 0, none⟩), gV g] w fun e w' => e = .returned (gV (mvd ws g)) ∧ Below w.heap.size w w' := by
  obtain ⟨op, a, b⟩ := g
  rcases rg_cases hg with ⟨ho, rfl, rfl⟩ | ⟨rfl, h0, ha, rfl⟩ | ⟨ho, h0, ha, h1, hb⟩
  · rcases ho with rfl | rfl
    · exact moved_0 h hv 0 0
    · exact moved_1 h hv 0 0
  · obtain ⟨k, rfl⟩ : ∃ k : Nat, a = (k : Int) := ⟨a.toNat, by omega⟩
    have := moved_2 h hv 0 k (by omega)
    exact this
  · obtain ⟨k, rfl⟩ : ∃ k : Nat, a = (k : Int) := ⟨a.toNat, by omega⟩
    obtain ⟨j, rfl⟩ : ∃ j : Nat, b = (j : Int) := ⟨b.toNat, by omega⟩
    rcases ho with rfl | rfl | rfl
    · exact moved_3 h hv k (by omega) j (by omega)
    · exact moved_4 h hv k (by omega) j (by omega)
    · exact moved_5 h hv k (by omega) j (by omega)
end
end Go.Proofs.Ytnhkgkpjkgifoaa
