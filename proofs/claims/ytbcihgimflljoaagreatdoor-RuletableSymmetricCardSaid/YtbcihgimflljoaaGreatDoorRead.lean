/- The walk of ruletable's read: the words of the line are collected, and one of the readers of a line is asked. -/
import Derived.Test.YtbcihgimflljoaaGreatDoorWrd
import Derived.Test.YtbcihgimflljoaaGreatDoorStat
import Derived.Maps.AppendAt
namespace Go.Proofs.YtbcihgimflljoaaGreatDoor
open Go.RowKit Go.Shelf
attribute [local go_sem] Oper.semAt_some

/-- the seven cells of a reader -/
def rb (k st sy : Int) (h v r nm : Value) : Array Value := #[.int .i64 k, .int .i64 st, .int .i64 sy, h, v, r, nm]
/-- what says nothing of a block that is no cells -/
def Stays (q : World → Prop) : Prop := ∀ (w : World) (D : Nat) (y o : Obj), w.heap[D]? = some y → y.isCells = false → q w → q (w.putObj D o)
/-- nothing has turned but the blocks of a set -/
structure Grw (w w' : World) (S : Nat → Prop) : Prop where
  os : w'.os = w.os
  tape : w'.tape = w.tape
  output : w'.output = w.output
  size : w.heap.size ≤ w'.heap.size
  block : ∀ b, b < w.heap.size → ¬ S b → w'.heap[b]? = w.heap[b]?
theorem grw_of {w w' : World} {R : Nat} {S : Nat → Prop} (hS : S R) (h : w.grownBy w' (some R)) : Grw w w' S := ⟨h.os, h.tape, h.output, h.size, fun b hb hn => h.block b hb (fun e => hn (by cases e; exact hS))⟩
/-- the one block of the reader -/
def One (R : Nat) : Nat → Prop := fun b => b = R
theorem grw_one {w w' : World} {R : Nat} (h : w.grownBy w' (some R)) : Grw w w' (One R) := grw_of rfl h
/-- what a reader of a line leaves behind -/
def Post {X : Type} (w : World) (R : Nat) (S : Nat → Prop) (c : Int) (cells : X → Array Value) (Q : X → World → Prop) (good : X → Prop) (e : Ending) (w' : World) : Prop :=
  ∃ x : X, good x ∧ e = .returned (.int .i64 c) ∧ Grw w w' S ∧ Blk w' R 73 (cells x) ∧ Q x w'
theorem grown_trans {w w1 w2 : World} {R : Nat} (h : w.grownBy w1 (some R)) (k : w1.grownBy w2 (some R)) : w.grownBy w2 (some R) :=
  ⟨k.os.trans h.os, k.tape.trans h.tape, k.output.trans h.output, Nat.le_trans h.size k.size, fun b hb hr => (k.block b (Nat.lt_of_lt_of_le hb h.size) hr).trans (h.block b hb hr)⟩
theorem grown_below {w w1 : World} {R : Nat} (h : Below w.heap.size w w1) : w.grownBy w1 (some R) := ⟨h.os, h.tape, h.output, h.size, fun b hb _ => h.block b hb⟩
theorem grown_set (w : World) (R i : Nat) (u : Value) : w.grownBy (w.setCell ⟨R, i, none⟩ u) (some R) :=
  ⟨rfl, rfl, rfl, by simp [World.setCell], fun b _ hr => Below.heap_setCell w ⟨R, i, none⟩ u b (fun e => hr (by rw [e]))⟩
theorem Blk.grown {w w' : World} {g R : Nat} {t : TypeId} {cs : Array Value} (h : Blk w g t cs) (hg : w.grownBy w' (some R)) (hne : g ≠ R) : Blk w' g t cs :=
  (hg.block g h.lt (fun e => hne (by cases e; rfl))).trans h
theorem Blk.put {w : World} {g D : Nat} {t : TypeId} {cs : Array Value} (h : Blk w g t cs) {x : Obj} (hD : w.heap[D]? = some x) (hx : x.isCells = false) (o : Obj) : Blk (w.putObj D o) g t cs := by
  have hne : g ≠ D := by
    intro e; subst e
    unfold Blk at h; rw [h] at hD; cases hD; cases hx
  unfold Blk at h ⊢
  rw [← h]
  simp [World.putObj, Array.getElem?_setIfInBounds, Ne.symm hne]
theorem grown_put {w w1 : World} {R D : Nat} (h : w.grownBy w1 (some R)) (hD : w.heap.size ≤ D) (o : Obj) : w.grownBy (w1.putObj D o) (some R) := by
  have k := grownBy_putObj' w1 D o
  exact ⟨k.os.trans h.os, k.tape.trans h.tape, k.output.trans h.output, Nat.le_trans h.size k.size, fun b hb hr => (k.block b (Nat.lt_of_lt_of_le hb h.size) (fun e => by cases e; omega)).trans (h.block b hb hr)⟩
theorem grw_put {w w1 : World} {S : Nat → Prop} {D : Nat} (h : Grw w w1 S) (hD : w.heap.size ≤ D) (o : Obj) : Grw w (w1.putObj D o) S := by
  have k := grownBy_putObj' w1 D o
  exact ⟨k.os.trans h.os, k.tape.trans h.tape, k.output.trans h.output, Nat.le_trans h.size k.size, fun b hb hr => (k.block b (Nat.lt_of_lt_of_le hb h.size) (fun e => by cases e; omega)).trans (h.block b hb hr)⟩
theorem grw_trans {w w1 w2 : World} {S : Nat → Prop} (h : Grw w w1 S) (k : Grw w1 w2 S) : Grw w w2 S :=
  ⟨k.os.trans h.os, k.tape.trans h.tape, k.output.trans h.output, Nat.le_trans h.size k.size, fun b hb hr => (k.block b (Nat.lt_of_lt_of_le hb h.size) hr).trans (h.block b hb hr)⟩
theorem Post.put {X : Type} {w w1 : World} {R : Nat} {S : Nat → Prop} {c : Int} {cells : X → Array Value} {Q : X → World → Prop} {good : X → Prop} {e : Ending}
    (hQ : ∀ x, Stays (Q x)) (h : Post w R S c cells Q good e w1) {D : Nat} (hD : w.heap.size ≤ D) {x : Obj} (hx : w1.heap[D]? = some x) (hc : x.isCells = false) (o : Obj) : Post w R S c cells Q good e (w1.putObj D o) := by
  obtain ⟨y, hy, he, hg, hb, hq⟩ := h
  exact ⟨y, hy, he, grw_put hg hD o, hb.put hx hc o, hQ y _ D x o hx hc hq⟩
theorem Post.after {X : Type} {w w0 w1 : World} {R : Nat} {S : Nat → Prop} {c : Int} {cells : X → Array Value} {Q : X → World → Prop} {good : X → Prop} {e : Ending}
    (hS : S R) (h : Post w0 R S c cells Q good e w1) (hg : w.grownBy w0 (some R)) : Post w R S c cells Q good e w1 := by
  obtain ⟨y, hy, he, h1, hb, hq⟩ := h
  exact ⟨y, hy, he, grw_trans (grw_of hS hg) h1, hb, hq⟩
/-- what a reader of a line is told -/
def Told {X : Type} (f : Nat) (w : World) (R : Nat) (S : Nat → Prop) (ws : List ByteArray) (cs : Array Value) (c : Int) (cells : X → Array Value) (Q : X → World → Prop) (good : X → Prop) : Prop :=
  ∀ (W : World) (g cap : Nat) (cur : Array Value), w.grownBy W (some R) → Blk W R 73 cs → Blk W g 9 cur → g ≠ R → (∀ (j : Nat) (x : ByteArray), ws[j]? = some x → cur[j]? = some (Value.string x)) → ws.length ≤ cap →
    Calls Tryz.prog f #[.pointer (some ⟨R, 0, none⟩), .slice (some ⟨g, 0, none⟩) ws.length cap] W (Post W R S c cells Q good)
theorem Blk.stays (g : Nat) (t : TypeId) (cs : Array Value) : Stays (fun w => Blk w g t cs) := fun _ _ _ o h1 h2 h3 => Blk.put h3 h1 h2 o
theorem Stays.and {p q : World → Prop} (h : Stays p) (k : Stays q) : Stays (fun w => p w ∧ q w) := fun w D y o h1 h2 h3 => ⟨h w D y o h1 h2 h3.1, k w D y o h1 h2 h3.2⟩
theorem Stays.true : Stays (fun _ => True) := fun _ _ _ _ _ _ _ => trivial
theorem str_parts : ∃ i, Tryz.prog.info? 9 = some i ∧ i.zero = some (Value.string ByteArray.empty) ∧ i.size = 1 ∧ i.bytes = 16 := info_parts str_info
set_option maxRecDepth 100000 in
set_option maxHeartbeats 4000000 in
theorem read_states {X : Type} (m : Int) (l : List UInt8) (N : Nat) (hN : 1 ≤ N) (hN2 : N ≤ 1000) (hL : Ln l N) (w : World) (R : Nat) (st sy : Int) (h v r nm : Value) (hG : 3 < w.heap.size)
    (hm : w.cell? ⟨3, 0, none⟩ = some (.int .i64 m)) (HR : Blk w R 73 (rb 0 st sy h v r nm))
    (c : Int) (cells : X → Array Value) (Q : X → World → Prop) (good : X → Prop)
    (hQ : ∀ x, Stays (Q x)) (S : Nat → Prop) (hSR : S R) (hSw : ∀ b, S b → b < w.heap.size) (hT : Told 61 w R S (wl l N) (rb 1 st sy h v r nm) c cells Q good) :
    Calls Tryz.prog 35 #[.pointer (some ⟨R, 0, none⟩), .string (tx l)] w (Post w R S c cells Q good) := by
  obtain ⟨i0, hi, hz0, hz1, hz2⟩ := str_parts
  have hRl := HR.lt
  refine (callsIn_wide (n := 9)).1 ?_
  refine callsIn_of_wp_marks Tryz.func35 rfl trivial ?_ rfl
  simp only [Tryz.ntmps35, List.size_toArray, List.length_cons, List.length_nil, Nat.reduceAdd, Nat.reduceSub, Array.replicate_succ, Array.replicate_zero, List.push_toArray, List.append_toArray, List.nil_append, List.cons_append]
  gi_wp2_with (refine ⟨trivial, ?_⟩; gi_at_call 60; refine (callsIn_wide.2 (words_any _ _)).mono ?_; rintro e w' ⟨rfl, rfl⟩)
  have bO := Boxed.new w 71 (.slice none 0 0)
  have bN := Boxed.new (w.alloc (.cells #[.slice none 0 0] 71)) 9 (.string (tx l))
  rw [World.size_alloc] at bN
  have hB0 : Below w.heap.size w ((w.alloc (.cells #[.slice none 0 0] 71)).alloc (.cells #[.string (tx l)] 9)) := ((Below.refl _ w).alloc (Nat.le_refl _) _).alloc (by simp) _
  refine wpIn_rangeFunc_ownG rfl (by omega) (gf := 84) (lb := #[.pointer (some ⟨w.heap.size + 1, 0, none⟩)]) rfl trivial (enters_of Tryz.func84 (by kernel_rfl) rfl)
    (words_stops m l N hL (9 - 1) (by omega) (w.heap.size + 1) w.heap.size hG _ (by simp) (by simp; omega) ((hB0.cell (p := ⟨3, 0, none⟩) hG).trans hm) bN.cell) belowK_t (belowK_b (by simp; omega)) (Below.refl _ _) (fun _ => rfl)
    (fun pre W => (∃ v, Boxed W w.heap.size 71 v ∧ W.ownsRow w.heap.size 9 1 v pre.length (pre.map Value.string) ∧ True) ∧ Below w.heap.size w W)
    (fun _ _ _ => False)
    (OwnFrom.and (Own.from (holdsRow_own w.heap.size w.heap.size 71 9 1 (fun pre : List ByteArray => pre.length) (fun pre : List ByteArray => pre.map Value.string) (fun _ _ => True)) _) (ownFrom_below (Nat.le_refl _) (by simp; omega)))
    (fun _ _ _ _ _ hs _ _ => hs)
    ⟨⟨_, bO.alloc _, World.ownsRow_nil _ _ _ _, trivial⟩, hB0⟩
    (fun x => { tmps := #[.pointer (some ⟨R, 0, none⟩), .string (tx l), undef, undef, .int .i64 0, .pointer (some ⟨w.heap.size, 0, none⟩), .string x, .string (tx l), .func (.func 84) #[] #[.pointer (some ⟨w.heap.size + 1, 0, none⟩)], .string x, undef, undef, undef, undef, undef, undef, undef, undef, undef, undef, undef, undef, undef, undef, undef, undef, undef, undef, undef, undef, undef, undef, undef, undef, undef, undef, undef, undef, undef, undef, undef, undef, undef, undef, undef, undef, undef, undef, undef, undef, undef, undef, undef, undef, undef, undef, undef, undef, undef, undef, undef, undef], defers := [] }) ?assign ?body ?done ?stop
  case assign =>
    intro l x W K hK
    gi_wp2
    exact hK
  case body =>
    rintro l' pre x W ⟨⟨v, hv, hrow, _⟩, hB⟩ hlt
    have hc := hv.cell
    gi_wp2_with (gi_at_builtin; refine wpListIn_append_own _ rfl _ _ 71 rfl w.heap.size 9 i0 (.string ByteArray.empty) 1 16 Tryz.underlying71 hi hz0 hz1 hz2 rfl (by decide) _ _ _ rfl (hrow.alloc _) ⟨W.heap.size, 0, none⟩ 1 1 [.string x] rfl rfl (cell_one_new _ _ _) (by simp [Value.oneCell']) (by unfold maxLen; omega) (by omega) (by have := hB.size; simp; omega) ?_; intro v' w1 hown' hgrow _; obtain ⟨g', cap', rfl⟩ := ownsRow_succ hown'; obtain ⟨hv1, hv2, hr2, hk2, hb2⟩ := hv.appended (by decide) hrow hB.size (Nat.le_refl _) hown' hgrow; have hc1 := hv1.cell; have hf1 := hv1.frozen)
    exact ⟨hk2.from _, hb2, ⟨_, hv2, by simpa using hr2, trivial⟩, hB.trans hb2⟩
  case done =>
    rintro D ys W hD rfl ⟨⟨v, hv, hrow, _⟩, hB⟩ hK
    have hc := hv.cell
    have hfz := hv.frozen
    have hBl : w.heap.size ≠ R := by omega
    have HRW := HR.below hB hRl
    obtain ⟨N', rfl⟩ : ∃ N', N = N' + 1 := ⟨N - 1, by omega⟩
    have hlen := wl_length l (N' + 1)
    rcases hrow.2 with ⟨_, h0⟩ | ⟨g, cap, cur, rfl, hgb, hgg, hle, _, _, htk⟩
    · omega
    have K0 := HRW.cell 0
    have F0 := HRW.frozen 0
    simp only [rb] at K0
    have KC : (W.setCell ⟨R, 0, none⟩ (.int .i64 1)).cell? ⟨w.heap.size, 0, none⟩ = W.cell? ⟨w.heap.size, 0, none⟩ := World.cell?_setCell_other W _ _ _ (fun e => by cases e; omega)
    rw [hc] at KC
    have HR2 : Blk (W.setCell ⟨R, 0, none⟩ (.int .i64 1)) R 73 (rb 1 st sy h v r nm) := HRW.set_ 0 _
    have KR := HR2.cell 0
    simp only [rb] at KR
    have HG : Blk (W.setCell ⟨R, 0, none⟩ (.int .i64 1)) g 9 cur := Blk.far (show Blk W g 9 cur from hgg) (by show g ≠ R; omega) _
    have HB2 : w.grownBy (W.setCell ⟨R, 0, none⟩ (.int .i64 1)) (some R) := grown_trans (grown_below hB) (grown_set W R 0 _)
    have HX := Lib.hid (hT (W.setCell ⟨R, 0, none⟩ (.int .i64 1)) g cap cur HB2 HR2 HG (by omega) (fun j x hx => by
      have := (congrArg (·[j]?) htk)
      simp only [List.getElem?_map, hx, Option.map_some, List.getElem?_take] at this
      split at this
      · rw [Array.getElem?_toList] at this; exact this
      · cases this) (by omega))
    rw [hlen] at HX hc KC
    have KD : (W.setCell ⟨R, 0, none⟩ (.int .i64 1)).heap[D]? = some (.deferred (some [])) := (Below.heap_setCell W ⟨R, 0, none⟩ _ D (by show D ≠ R; simp at hD; omega)).trans hK
    clear HR2 HG
    gi_wp2_with (refine ⟨trivial, ?_⟩; gi_at_call 61; refine (callsIn_wide.2 HX.out).mono ?_; rintro e W3 ⟨y, hy, rfl, hg3, hb3, hq3⟩)
    have KD3 : W3.heap[D]? = some (.deferred (some [])) := (hg3.block D (Array.getElem?_eq_some_iff.1 KD).1 (fun e => by have := hSw _ e; simp at hD; omega)).trans KD
    refine ⟨by simp, .inl ⟨_, _, rfl, run_takeDeferred KD3, ?_⟩⟩
    refine ⟨_, results_tmp rfl _ _ _, ?_⟩
    exact Post.put hQ (Post.after hSR ⟨y, hy, rfl, hg3, hb3, hq3⟩ HB2) (by simp at hD; omega) KD3 rfl _
  case stop =>
    rintro D c pre W _ _ h _
    exact h.elim
set_option maxRecDepth 100000 in
set_option maxHeartbeats 4000000 in
theorem read_hood {X : Type} (m : Int) (l : List UInt8) (N : Nat) (hN : 1 ≤ N) (hN2 : N ≤ 1000) (hL : Ln l N) (w : World) (R : Nat) (st sy : Int) (h v r nm : Value) (hG : 3 < w.heap.size)
    (hm : w.cell? ⟨3, 0, none⟩ = some (.int .i64 m)) (HR : Blk w R 73 (rb 1 st sy h v r nm))
    (c : Int) (cells : X → Array Value) (Q : X → World → Prop) (good : X → Prop)
    (hQ : ∀ x, Stays (Q x)) (S : Nat → Prop) (hSR : S R) (hSw : ∀ b, S b → b < w.heap.size) (hT : Told 62 w R S (wl l N) (rb 2 st sy h v r nm) c cells Q good) :
    Calls Tryz.prog 35 #[.pointer (some ⟨R, 0, none⟩), .string (tx l)] w (Post w R S c cells Q good) := by
  obtain ⟨i0, hi, hz0, hz1, hz2⟩ := str_parts
  have hRl := HR.lt
  refine (callsIn_wide (n := 9)).1 ?_
  refine callsIn_of_wp_marks Tryz.func35 rfl trivial ?_ rfl
  simp only [Tryz.ntmps35, List.size_toArray, List.length_cons, List.length_nil, Nat.reduceAdd, Nat.reduceSub, Array.replicate_succ, Array.replicate_zero, List.push_toArray, List.append_toArray, List.nil_append, List.cons_append]
  gi_wp2_with (refine ⟨trivial, ?_⟩; gi_at_call 60; refine (callsIn_wide.2 (words_any _ _)).mono ?_; rintro e w' ⟨rfl, rfl⟩)
  have bO := Boxed.new w 71 (.slice none 0 0)
  have bN := Boxed.new (w.alloc (.cells #[.slice none 0 0] 71)) 9 (.string (tx l))
  rw [World.size_alloc] at bN
  have hB0 : Below w.heap.size w ((w.alloc (.cells #[.slice none 0 0] 71)).alloc (.cells #[.string (tx l)] 9)) := ((Below.refl _ w).alloc (Nat.le_refl _) _).alloc (by simp) _
  refine wpIn_rangeFunc_ownG rfl (by omega) (gf := 84) (lb := #[.pointer (some ⟨w.heap.size + 1, 0, none⟩)]) rfl trivial (enters_of Tryz.func84 (by kernel_rfl) rfl)
    (words_stops m l N hL (9 - 1) (by omega) (w.heap.size + 1) w.heap.size hG _ (by simp) (by simp; omega) ((hB0.cell (p := ⟨3, 0, none⟩) hG).trans hm) bN.cell) belowK_t (belowK_b (by simp; omega)) (Below.refl _ _) (fun _ => rfl)
    (fun pre W => (∃ v, Boxed W w.heap.size 71 v ∧ W.ownsRow w.heap.size 9 1 v pre.length (pre.map Value.string) ∧ True) ∧ Below w.heap.size w W)
    (fun _ _ _ => False)
    (OwnFrom.and (Own.from (holdsRow_own w.heap.size w.heap.size 71 9 1 (fun pre : List ByteArray => pre.length) (fun pre : List ByteArray => pre.map Value.string) (fun _ _ => True)) _) (ownFrom_below (Nat.le_refl _) (by simp; omega)))
    (fun _ _ _ _ _ hs _ _ => hs)
    ⟨⟨_, bO.alloc _, World.ownsRow_nil _ _ _ _, trivial⟩, hB0⟩
    (fun x => { tmps := #[.pointer (some ⟨R, 0, none⟩), .string (tx l), undef, undef, .int .i64 0, .pointer (some ⟨w.heap.size, 0, none⟩), .string x, .string (tx l), .func (.func 84) #[] #[.pointer (some ⟨w.heap.size + 1, 0, none⟩)], .string x, undef, undef, undef, undef, undef, undef, undef, undef, undef, undef, undef, undef, undef, undef, undef, undef, undef, undef, undef, undef, undef, undef, undef, undef, undef, undef, undef, undef, undef, undef, undef, undef, undef, undef, undef, undef, undef, undef, undef, undef, undef, undef, undef, undef, undef, undef, undef, undef, undef, undef, undef, undef], defers := [] }) ?assign ?body ?done ?stop
  case assign =>
    intro l x W K hK
    gi_wp2
    exact hK
  case body =>
    rintro l' pre x W ⟨⟨v, hv, hrow, _⟩, hB⟩ hlt
    have hc := hv.cell
    gi_wp2_with (gi_at_builtin; refine wpListIn_append_own _ rfl _ _ 71 rfl w.heap.size 9 i0 (.string ByteArray.empty) 1 16 Tryz.underlying71 hi hz0 hz1 hz2 rfl (by decide) _ _ _ rfl (hrow.alloc _) ⟨W.heap.size, 0, none⟩ 1 1 [.string x] rfl rfl (cell_one_new _ _ _) (by simp [Value.oneCell']) (by unfold maxLen; omega) (by omega) (by have := hB.size; simp; omega) ?_; intro v' w1 hown' hgrow _; obtain ⟨g', cap', rfl⟩ := ownsRow_succ hown'; obtain ⟨hv1, hv2, hr2, hk2, hb2⟩ := hv.appended (by decide) hrow hB.size (Nat.le_refl _) hown' hgrow; have hc1 := hv1.cell; have hf1 := hv1.frozen)
    exact ⟨hk2.from _, hb2, ⟨_, hv2, by simpa using hr2, trivial⟩, hB.trans hb2⟩
  case done =>
    rintro D ys W hD rfl ⟨⟨v, hv, hrow, _⟩, hB⟩ hK
    have hc := hv.cell
    have hfz := hv.frozen
    have hBl : w.heap.size ≠ R := by omega
    have HRW := HR.below hB hRl
    obtain ⟨N', rfl⟩ : ∃ N', N = N' + 1 := ⟨N - 1, by omega⟩
    have hlen := wl_length l (N' + 1)
    rcases hrow.2 with ⟨_, h0⟩ | ⟨g, cap, cur, rfl, hgb, hgg, hle, _, _, htk⟩
    · omega
    have K0 := HRW.cell 0
    have F0 := HRW.frozen 0
    simp only [rb] at K0
    have KC : (W.setCell ⟨R, 0, none⟩ (.int .i64 2)).cell? ⟨w.heap.size, 0, none⟩ = W.cell? ⟨w.heap.size, 0, none⟩ := World.cell?_setCell_other W _ _ _ (fun e => by cases e; omega)
    rw [hc] at KC
    have HR2 : Blk (W.setCell ⟨R, 0, none⟩ (.int .i64 2)) R 73 (rb 2 st sy h v r nm) := HRW.set_ 0 _
    have KR := HR2.cell 0
    simp only [rb] at KR
    have HG : Blk (W.setCell ⟨R, 0, none⟩ (.int .i64 2)) g 9 cur := Blk.far (show Blk W g 9 cur from hgg) (by show g ≠ R; omega) _
    have HB2 : w.grownBy (W.setCell ⟨R, 0, none⟩ (.int .i64 2)) (some R) := grown_trans (grown_below hB) (grown_set W R 0 _)
    have HX := Lib.hid (hT (W.setCell ⟨R, 0, none⟩ (.int .i64 2)) g cap cur HB2 HR2 HG (by omega) (fun j x hx => by
      have := (congrArg (·[j]?) htk)
      simp only [List.getElem?_map, hx, Option.map_some, List.getElem?_take] at this
      split at this
      · rw [Array.getElem?_toList] at this; exact this
      · cases this) (by omega))
    rw [hlen] at HX hc KC
    have KD : (W.setCell ⟨R, 0, none⟩ (.int .i64 2)).heap[D]? = some (.deferred (some [])) := (Below.heap_setCell W ⟨R, 0, none⟩ _ D (by show D ≠ R; simp at hD; omega)).trans hK
    clear HR2 HG
    gi_wp2_with (refine ⟨trivial, ?_⟩; gi_at_call 62; refine (callsIn_wide.2 HX.out).mono ?_; rintro e W3 ⟨y, hy, rfl, hg3, hb3, hq3⟩)
    have KD3 : W3.heap[D]? = some (.deferred (some [])) := (hg3.block D (Array.getElem?_eq_some_iff.1 KD).1 (fun e => by have := hSw _ e; simp at hD; omega)).trans KD
    refine ⟨by simp, .inl ⟨_, _, rfl, run_takeDeferred KD3, ?_⟩⟩
    refine ⟨_, results_tmp rfl _ _ _, ?_⟩
    exact Post.put hQ (Post.after hSR ⟨y, hy, rfl, hg3, hb3, hq3⟩ HB2) (by simp at hD; omega) KD3 rfl _
  case stop =>
    rintro D c pre W _ _ h _
    exact h.elim
set_option maxRecDepth 100000 in
set_option maxHeartbeats 4000000 in
theorem read_sym {X : Type} (m : Int) (l : List UInt8) (N : Nat) (hN : 1 ≤ N) (hN2 : N ≤ 1000) (hL : Ln l N) (w : World) (R : Nat) (st sy : Int) (h v r nm : Value) (hG : 3 < w.heap.size)
    (hm : w.cell? ⟨3, 0, none⟩ = some (.int .i64 m)) (HR : Blk w R 73 (rb 2 st sy h v r nm))
    (c : Int) (cells : X → Array Value) (Q : X → World → Prop) (good : X → Prop)
    (hQ : ∀ x, Stays (Q x)) (S : Nat → Prop) (hSR : S R) (hSw : ∀ b, S b → b < w.heap.size) (hT : Told 63 w R S (wl l N) (rb 3 st sy h v r nm) c cells Q good) :
    Calls Tryz.prog 35 #[.pointer (some ⟨R, 0, none⟩), .string (tx l)] w (Post w R S c cells Q good) := by
  obtain ⟨i0, hi, hz0, hz1, hz2⟩ := str_parts
  have hRl := HR.lt
  refine (callsIn_wide (n := 9)).1 ?_
  refine callsIn_of_wp_marks Tryz.func35 rfl trivial ?_ rfl
  simp only [Tryz.ntmps35, List.size_toArray, List.length_cons, List.length_nil, Nat.reduceAdd, Nat.reduceSub, Array.replicate_succ, Array.replicate_zero, List.push_toArray, List.append_toArray, List.nil_append, List.cons_append]
  gi_wp2_with (refine ⟨trivial, ?_⟩; gi_at_call 60; refine (callsIn_wide.2 (words_any _ _)).mono ?_; rintro e w' ⟨rfl, rfl⟩)
  have bO := Boxed.new w 71 (.slice none 0 0)
  have bN := Boxed.new (w.alloc (.cells #[.slice none 0 0] 71)) 9 (.string (tx l))
  rw [World.size_alloc] at bN
  have hB0 : Below w.heap.size w ((w.alloc (.cells #[.slice none 0 0] 71)).alloc (.cells #[.string (tx l)] 9)) := ((Below.refl _ w).alloc (Nat.le_refl _) _).alloc (by simp) _
  refine wpIn_rangeFunc_ownG rfl (by omega) (gf := 84) (lb := #[.pointer (some ⟨w.heap.size + 1, 0, none⟩)]) rfl trivial (enters_of Tryz.func84 (by kernel_rfl) rfl)
    (words_stops m l N hL (9 - 1) (by omega) (w.heap.size + 1) w.heap.size hG _ (by simp) (by simp; omega) ((hB0.cell (p := ⟨3, 0, none⟩) hG).trans hm) bN.cell) belowK_t (belowK_b (by simp; omega)) (Below.refl _ _) (fun _ => rfl)
    (fun pre W => (∃ v, Boxed W w.heap.size 71 v ∧ W.ownsRow w.heap.size 9 1 v pre.length (pre.map Value.string) ∧ True) ∧ Below w.heap.size w W)
    (fun _ _ _ => False)
    (OwnFrom.and (Own.from (holdsRow_own w.heap.size w.heap.size 71 9 1 (fun pre : List ByteArray => pre.length) (fun pre : List ByteArray => pre.map Value.string) (fun _ _ => True)) _) (ownFrom_below (Nat.le_refl _) (by simp; omega)))
    (fun _ _ _ _ _ hs _ _ => hs)
    ⟨⟨_, bO.alloc _, World.ownsRow_nil _ _ _ _, trivial⟩, hB0⟩
    (fun x => { tmps := #[.pointer (some ⟨R, 0, none⟩), .string (tx l), undef, undef, .int .i64 0, .pointer (some ⟨w.heap.size, 0, none⟩), .string x, .string (tx l), .func (.func 84) #[] #[.pointer (some ⟨w.heap.size + 1, 0, none⟩)], .string x, undef, undef, undef, undef, undef, undef, undef, undef, undef, undef, undef, undef, undef, undef, undef, undef, undef, undef, undef, undef, undef, undef, undef, undef, undef, undef, undef, undef, undef, undef, undef, undef, undef, undef, undef, undef, undef, undef, undef, undef, undef, undef, undef, undef, undef, undef, undef, undef, undef, undef, undef, undef], defers := [] }) ?assign ?body ?done ?stop
  case assign =>
    intro l x W K hK
    gi_wp2
    exact hK
  case body =>
    rintro l' pre x W ⟨⟨v, hv, hrow, _⟩, hB⟩ hlt
    have hc := hv.cell
    gi_wp2_with (gi_at_builtin; refine wpListIn_append_own _ rfl _ _ 71 rfl w.heap.size 9 i0 (.string ByteArray.empty) 1 16 Tryz.underlying71 hi hz0 hz1 hz2 rfl (by decide) _ _ _ rfl (hrow.alloc _) ⟨W.heap.size, 0, none⟩ 1 1 [.string x] rfl rfl (cell_one_new _ _ _) (by simp [Value.oneCell']) (by unfold maxLen; omega) (by omega) (by have := hB.size; simp; omega) ?_; intro v' w1 hown' hgrow _; obtain ⟨g', cap', rfl⟩ := ownsRow_succ hown'; obtain ⟨hv1, hv2, hr2, hk2, hb2⟩ := hv.appended (by decide) hrow hB.size (Nat.le_refl _) hown' hgrow; have hc1 := hv1.cell; have hf1 := hv1.frozen)
    exact ⟨hk2.from _, hb2, ⟨_, hv2, by simpa using hr2, trivial⟩, hB.trans hb2⟩
  case done =>
    rintro D ys W hD rfl ⟨⟨v, hv, hrow, _⟩, hB⟩ hK
    have hc := hv.cell
    have hfz := hv.frozen
    have hBl : w.heap.size ≠ R := by omega
    have HRW := HR.below hB hRl
    obtain ⟨N', rfl⟩ : ∃ N', N = N' + 1 := ⟨N - 1, by omega⟩
    have hlen := wl_length l (N' + 1)
    rcases hrow.2 with ⟨_, h0⟩ | ⟨g, cap, cur, rfl, hgb, hgg, hle, _, _, htk⟩
    · omega
    have K0 := HRW.cell 0
    have F0 := HRW.frozen 0
    simp only [rb] at K0
    have KC : (W.setCell ⟨R, 0, none⟩ (.int .i64 3)).cell? ⟨w.heap.size, 0, none⟩ = W.cell? ⟨w.heap.size, 0, none⟩ := World.cell?_setCell_other W _ _ _ (fun e => by cases e; omega)
    rw [hc] at KC
    have HR2 : Blk (W.setCell ⟨R, 0, none⟩ (.int .i64 3)) R 73 (rb 3 st sy h v r nm) := HRW.set_ 0 _
    have KR := HR2.cell 0
    simp only [rb] at KR
    have HG : Blk (W.setCell ⟨R, 0, none⟩ (.int .i64 3)) g 9 cur := Blk.far (show Blk W g 9 cur from hgg) (by show g ≠ R; omega) _
    have HB2 : w.grownBy (W.setCell ⟨R, 0, none⟩ (.int .i64 3)) (some R) := grown_trans (grown_below hB) (grown_set W R 0 _)
    have HX := Lib.hid (hT (W.setCell ⟨R, 0, none⟩ (.int .i64 3)) g cap cur HB2 HR2 HG (by omega) (fun j x hx => by
      have := (congrArg (·[j]?) htk)
      simp only [List.getElem?_map, hx, Option.map_some, List.getElem?_take] at this
      split at this
      · rw [Array.getElem?_toList] at this; exact this
      · cases this) (by omega))
    rw [hlen] at HX hc KC
    have KD : (W.setCell ⟨R, 0, none⟩ (.int .i64 3)).heap[D]? = some (.deferred (some [])) := (Below.heap_setCell W ⟨R, 0, none⟩ _ D (by show D ≠ R; simp at hD; omega)).trans hK
    clear HR2 HG
    gi_wp2_with (refine ⟨trivial, ?_⟩; gi_at_call 63; refine (callsIn_wide.2 HX.out).mono ?_; rintro e W3 ⟨y, hy, rfl, hg3, hb3, hq3⟩)
    have KD3 : W3.heap[D]? = some (.deferred (some [])) := (hg3.block D (Array.getElem?_eq_some_iff.1 KD).1 (fun e => by have := hSw _ e; simp at hD; omega)).trans KD
    refine ⟨by simp, .inl ⟨_, _, rfl, run_takeDeferred KD3, ?_⟩⟩
    refine ⟨_, results_tmp rfl _ _ _, ?_⟩
    exact Post.put hQ (Post.after hSR ⟨y, hy, rfl, hg3, hb3, hq3⟩ HB2) (by simp at hD; omega) KD3 rfl _
  case stop =>
    rintro D c pre W _ _ h _
    exact h.elim
set_option maxRecDepth 100000 in
set_option maxHeartbeats 4000000 in
theorem read_var {X : Type} (m : Int) (l : List UInt8) (N : Nat) (hN : 1 ≤ N) (hN2 : N ≤ 1000) (hL : Ln l N) (w : World) (k : Int) (hk : 3 ≤ k) (hk2 : k ≤ 1000) (hv0 : ((tx (wd (rs l 0))).toList == [118, 97, 114]) = true) (R : Nat) (st sy : Int) (h v r nm : Value) (hG : 3 < w.heap.size)
    (hm : w.cell? ⟨3, 0, none⟩ = some (.int .i64 m)) (HR : Blk w R 73 (rb k st sy h v r nm))
    (c : Int) (cells : X → Array Value) (Q : X → World → Prop) (good : X → Prop)
    (hQ : ∀ x, Stays (Q x)) (S : Nat → Prop) (hSR : S R) (hSw : ∀ b, S b → b < w.heap.size) (hT : Told 64 w R S (wl l N) (rb (k + 1) st sy h v r nm) c cells Q good) :
    Calls Tryz.prog 35 #[.pointer (some ⟨R, 0, none⟩), .string (tx l)] w (Post w R S c cells Q good) := by
  obtain ⟨i0, hi, hz0, hz1, hz2⟩ := str_parts
  have hRl := HR.lt
  refine (callsIn_wide (n := 9)).1 ?_
  refine callsIn_of_wp_marks Tryz.func35 rfl trivial ?_ rfl
  simp only [Tryz.ntmps35, List.size_toArray, List.length_cons, List.length_nil, Nat.reduceAdd, Nat.reduceSub, Array.replicate_succ, Array.replicate_zero, List.push_toArray, List.append_toArray, List.nil_append, List.cons_append]
  gi_wp2_with (refine ⟨trivial, ?_⟩; gi_at_call 60; refine (callsIn_wide.2 (words_any _ _)).mono ?_; rintro e w' ⟨rfl, rfl⟩)
  have bO := Boxed.new w 71 (.slice none 0 0)
  have bN := Boxed.new (w.alloc (.cells #[.slice none 0 0] 71)) 9 (.string (tx l))
  rw [World.size_alloc] at bN
  have hB0 : Below w.heap.size w ((w.alloc (.cells #[.slice none 0 0] 71)).alloc (.cells #[.string (tx l)] 9)) := ((Below.refl _ w).alloc (Nat.le_refl _) _).alloc (by simp) _
  refine wpIn_rangeFunc_ownG rfl (by omega) (gf := 84) (lb := #[.pointer (some ⟨w.heap.size + 1, 0, none⟩)]) rfl trivial (enters_of Tryz.func84 (by kernel_rfl) rfl)
    (words_stops m l N hL (9 - 1) (by omega) (w.heap.size + 1) w.heap.size hG _ (by simp) (by simp; omega) ((hB0.cell (p := ⟨3, 0, none⟩) hG).trans hm) bN.cell) belowK_t (belowK_b (by simp; omega)) (Below.refl _ _) (fun _ => rfl)
    (fun pre W => (∃ v, Boxed W w.heap.size 71 v ∧ W.ownsRow w.heap.size 9 1 v pre.length (pre.map Value.string) ∧ True) ∧ Below w.heap.size w W)
    (fun _ _ _ => False)
    (OwnFrom.and (Own.from (holdsRow_own w.heap.size w.heap.size 71 9 1 (fun pre : List ByteArray => pre.length) (fun pre : List ByteArray => pre.map Value.string) (fun _ _ => True)) _) (ownFrom_below (Nat.le_refl _) (by simp; omega)))
    (fun _ _ _ _ _ hs _ _ => hs)
    ⟨⟨_, bO.alloc _, World.ownsRow_nil _ _ _ _, trivial⟩, hB0⟩
    (fun x => { tmps := #[.pointer (some ⟨R, 0, none⟩), .string (tx l), undef, undef, .int .i64 0, .pointer (some ⟨w.heap.size, 0, none⟩), .string x, .string (tx l), .func (.func 84) #[] #[.pointer (some ⟨w.heap.size + 1, 0, none⟩)], .string x, undef, undef, undef, undef, undef, undef, undef, undef, undef, undef, undef, undef, undef, undef, undef, undef, undef, undef, undef, undef, undef, undef, undef, undef, undef, undef, undef, undef, undef, undef, undef, undef, undef, undef, undef, undef, undef, undef, undef, undef, undef, undef, undef, undef, undef, undef, undef, undef, undef, undef, undef, undef], defers := [] }) ?assign ?body ?done ?stop
  case assign =>
    intro l x W K hK
    gi_wp2
    exact hK
  case body =>
    rintro l' pre x W ⟨⟨v, hv, hrow, _⟩, hB⟩ hlt
    have hc := hv.cell
    gi_wp2_with (gi_at_builtin; refine wpListIn_append_own _ rfl _ _ 71 rfl w.heap.size 9 i0 (.string ByteArray.empty) 1 16 Tryz.underlying71 hi hz0 hz1 hz2 rfl (by decide) _ _ _ rfl (hrow.alloc _) ⟨W.heap.size, 0, none⟩ 1 1 [.string x] rfl rfl (cell_one_new _ _ _) (by simp [Value.oneCell']) (by unfold maxLen; omega) (by omega) (by have := hB.size; simp; omega) ?_; intro v' w1 hown' hgrow _; obtain ⟨g', cap', rfl⟩ := ownsRow_succ hown'; obtain ⟨hv1, hv2, hr2, hk2, hb2⟩ := hv.appended (by decide) hrow hB.size (Nat.le_refl _) hown' hgrow; have hc1 := hv1.cell; have hf1 := hv1.frozen)
    exact ⟨hk2.from _, hb2, ⟨_, hv2, by simpa using hr2, trivial⟩, hB.trans hb2⟩
  case done =>
    rintro D ys W hD rfl ⟨⟨v, hv, hrow, _⟩, hB⟩ hK
    have hc := hv.cell
    have hfz := hv.frozen
    have hBl : w.heap.size ≠ R := by omega
    have HRW := HR.below hB hRl
    obtain ⟨N', rfl⟩ : ∃ N', N = N' + 1 := ⟨N - 1, by omega⟩
    have hlen := wl_length l (N' + 1)
    rcases hrow.2 with ⟨_, h0⟩ | ⟨g, cap, cur, rfl, hgb, hgg, hle, _, _, htk⟩
    · omega
    have K0 := HRW.cell 0
    have F0 := HRW.frozen 0
    simp only [rb] at K0
    have KC : (W.setCell ⟨R, 0, none⟩ (.int .i64 (k + 1))).cell? ⟨w.heap.size, 0, none⟩ = W.cell? ⟨w.heap.size, 0, none⟩ := World.cell?_setCell_other W _ _ _ (fun e => by cases e; omega)
    rw [hc] at KC
    have HR2 : Blk (W.setCell ⟨R, 0, none⟩ (.int .i64 (k + 1))) R 73 (rb (k + 1) st sy h v r nm) := HRW.set_ 0 _
    have KR := HR2.cell 0
    simp only [rb] at KR
    have HG : Blk (W.setCell ⟨R, 0, none⟩ (.int .i64 (k + 1))) g 9 cur := Blk.far (show Blk W g 9 cur from hgg) (by show g ≠ R; omega) _
    have HB2 : w.grownBy (W.setCell ⟨R, 0, none⟩ (.int .i64 (k + 1))) (some R) := grown_trans (grown_below hB) (grown_set W R 0 _)
    have HX := Lib.hid (hT (W.setCell ⟨R, 0, none⟩ (.int .i64 (k + 1))) g cap cur HB2 HR2 HG (by omega) (fun j x hx => by
      have := (congrArg (·[j]?) htk)
      simp only [List.getElem?_map, hx, Option.map_some, List.getElem?_take] at this
      split at this
      · rw [Array.getElem?_toList] at this; exact this
      · cases this) (by omega))
    rw [hlen] at HX hc KC
    have KD : (W.setCell ⟨R, 0, none⟩ (.int .i64 (k + 1))).heap[D]? = some (.deferred (some [])) := (Below.heap_setCell W ⟨R, 0, none⟩ _ D (by show D ≠ R; simp at hD; omega)).trans hK
    have HW := HG.cell 0
    have hW0 : cur[0]? = some (.string (tx (wd (rs l 0)))) := by
      have := (congrArg (·[0]?) htk)
      rw [List.getElem?_take, if_pos (by omega), Array.getElem?_toList, List.getElem?_map] at this
      rw [this]; simp [wl]
    rw [hW0] at HW
    clear hW0
    have hw1 : wrap64 (k + 1) = k + 1 := by unfold wrap64; omega
    have hw2 : ((k + 1 : Int) == 1) = false := by rw [beq_eq_false_iff_ne]; omega
    have hw3 : ((k + 1 : Int) == 2) = false := by rw [beq_eq_false_iff_ne]; omega
    have hw4 : ((k + 1 : Int) == 3) = false := by rw [beq_eq_false_iff_ne]; omega
    generalize tx (wd (rs l 0)) = w00 at HW hv0
    clear HR2 HG
    gi_wp2_with (refine ⟨trivial, ?_⟩; gi_at_call 64; refine (callsIn_wide.2 HX.out).mono ?_; rintro e W3 ⟨y, hy, rfl, hg3, hb3, hq3⟩)
    have KD3 : W3.heap[D]? = some (.deferred (some [])) := (hg3.block D (Array.getElem?_eq_some_iff.1 KD).1 (fun e => by have := hSw _ e; simp at hD; omega)).trans KD
    refine ⟨by simp, .inl ⟨_, _, rfl, run_takeDeferred KD3, ?_⟩⟩
    refine ⟨_, results_tmp rfl _ _ _, ?_⟩
    exact Post.put hQ (Post.after hSR ⟨y, hy, rfl, hg3, hb3, hq3⟩ HB2) (by simp at hD; omega) KD3 rfl _
  case stop =>
    rintro D c pre W _ _ h _
    exact h.elim
set_option maxRecDepth 100000 in
set_option maxHeartbeats 4000000 in
theorem read_row {X : Type} (m : Int) (l : List UInt8) (N : Nat) (hN : 1 ≤ N) (hN2 : N ≤ 1000) (hL : Ln l N) (w : World) (k : Int) (hk : 3 ≤ k) (hk2 : k ≤ 1000) (hv0 : ((tx (wd (rs l 0))).toList == [118, 97, 114]) = false) (R : Nat) (st sy : Int) (h v r nm : Value) (hG : 3 < w.heap.size)
    (hm : w.cell? ⟨3, 0, none⟩ = some (.int .i64 m)) (HR : Blk w R 73 (rb k st sy h v r nm))
    (c : Int) (cells : X → Array Value) (Q : X → World → Prop) (good : X → Prop)
    (hQ : ∀ x, Stays (Q x)) (S : Nat → Prop) (hSR : S R) (hSw : ∀ b, S b → b < w.heap.size) (hT : Told 65 w R S (wl l N) (rb (k + 1) st sy h v r nm) c cells Q good) :
    Calls Tryz.prog 35 #[.pointer (some ⟨R, 0, none⟩), .string (tx l)] w (Post w R S c cells Q good) := by
  obtain ⟨i0, hi, hz0, hz1, hz2⟩ := str_parts
  have hRl := HR.lt
  refine (callsIn_wide (n := 9)).1 ?_
  refine callsIn_of_wp_marks Tryz.func35 rfl trivial ?_ rfl
  simp only [Tryz.ntmps35, List.size_toArray, List.length_cons, List.length_nil, Nat.reduceAdd, Nat.reduceSub, Array.replicate_succ, Array.replicate_zero, List.push_toArray, List.append_toArray, List.nil_append, List.cons_append]
  gi_wp2_with (refine ⟨trivial, ?_⟩; gi_at_call 60; refine (callsIn_wide.2 (words_any _ _)).mono ?_; rintro e w' ⟨rfl, rfl⟩)
  have bO := Boxed.new w 71 (.slice none 0 0)
  have bN := Boxed.new (w.alloc (.cells #[.slice none 0 0] 71)) 9 (.string (tx l))
  rw [World.size_alloc] at bN
  have hB0 : Below w.heap.size w ((w.alloc (.cells #[.slice none 0 0] 71)).alloc (.cells #[.string (tx l)] 9)) := ((Below.refl _ w).alloc (Nat.le_refl _) _).alloc (by simp) _
  refine wpIn_rangeFunc_ownG rfl (by omega) (gf := 84) (lb := #[.pointer (some ⟨w.heap.size + 1, 0, none⟩)]) rfl trivial (enters_of Tryz.func84 (by kernel_rfl) rfl)
    (words_stops m l N hL (9 - 1) (by omega) (w.heap.size + 1) w.heap.size hG _ (by simp) (by simp; omega) ((hB0.cell (p := ⟨3, 0, none⟩) hG).trans hm) bN.cell) belowK_t (belowK_b (by simp; omega)) (Below.refl _ _) (fun _ => rfl)
    (fun pre W => (∃ v, Boxed W w.heap.size 71 v ∧ W.ownsRow w.heap.size 9 1 v pre.length (pre.map Value.string) ∧ True) ∧ Below w.heap.size w W)
    (fun _ _ _ => False)
    (OwnFrom.and (Own.from (holdsRow_own w.heap.size w.heap.size 71 9 1 (fun pre : List ByteArray => pre.length) (fun pre : List ByteArray => pre.map Value.string) (fun _ _ => True)) _) (ownFrom_below (Nat.le_refl _) (by simp; omega)))
    (fun _ _ _ _ _ hs _ _ => hs)
    ⟨⟨_, bO.alloc _, World.ownsRow_nil _ _ _ _, trivial⟩, hB0⟩
    (fun x => { tmps := #[.pointer (some ⟨R, 0, none⟩), .string (tx l), undef, undef, .int .i64 0, .pointer (some ⟨w.heap.size, 0, none⟩), .string x, .string (tx l), .func (.func 84) #[] #[.pointer (some ⟨w.heap.size + 1, 0, none⟩)], .string x, undef, undef, undef, undef, undef, undef, undef, undef, undef, undef, undef, undef, undef, undef, undef, undef, undef, undef, undef, undef, undef, undef, undef, undef, undef, undef, undef, undef, undef, undef, undef, undef, undef, undef, undef, undef, undef, undef, undef, undef, undef, undef, undef, undef, undef, undef, undef, undef, undef, undef, undef, undef], defers := [] }) ?assign ?body ?done ?stop
  case assign =>
    intro l x W K hK
    gi_wp2
    exact hK
  case body =>
    rintro l' pre x W ⟨⟨v, hv, hrow, _⟩, hB⟩ hlt
    have hc := hv.cell
    gi_wp2_with (gi_at_builtin; refine wpListIn_append_own _ rfl _ _ 71 rfl w.heap.size 9 i0 (.string ByteArray.empty) 1 16 Tryz.underlying71 hi hz0 hz1 hz2 rfl (by decide) _ _ _ rfl (hrow.alloc _) ⟨W.heap.size, 0, none⟩ 1 1 [.string x] rfl rfl (cell_one_new _ _ _) (by simp [Value.oneCell']) (by unfold maxLen; omega) (by omega) (by have := hB.size; simp; omega) ?_; intro v' w1 hown' hgrow _; obtain ⟨g', cap', rfl⟩ := ownsRow_succ hown'; obtain ⟨hv1, hv2, hr2, hk2, hb2⟩ := hv.appended (by decide) hrow hB.size (Nat.le_refl _) hown' hgrow; have hc1 := hv1.cell; have hf1 := hv1.frozen)
    exact ⟨hk2.from _, hb2, ⟨_, hv2, by simpa using hr2, trivial⟩, hB.trans hb2⟩
  case done =>
    rintro D ys W hD rfl ⟨⟨v, hv, hrow, _⟩, hB⟩ hK
    have hc := hv.cell
    have hfz := hv.frozen
    have hBl : w.heap.size ≠ R := by omega
    have HRW := HR.below hB hRl
    obtain ⟨N', rfl⟩ : ∃ N', N = N' + 1 := ⟨N - 1, by omega⟩
    have hlen := wl_length l (N' + 1)
    rcases hrow.2 with ⟨_, h0⟩ | ⟨g, cap, cur, rfl, hgb, hgg, hle, _, _, htk⟩
    · omega
    have K0 := HRW.cell 0
    have F0 := HRW.frozen 0
    simp only [rb] at K0
    have KC : (W.setCell ⟨R, 0, none⟩ (.int .i64 (k + 1))).cell? ⟨w.heap.size, 0, none⟩ = W.cell? ⟨w.heap.size, 0, none⟩ := World.cell?_setCell_other W _ _ _ (fun e => by cases e; omega)
    rw [hc] at KC
    have HR2 : Blk (W.setCell ⟨R, 0, none⟩ (.int .i64 (k + 1))) R 73 (rb (k + 1) st sy h v r nm) := HRW.set_ 0 _
    have KR := HR2.cell 0
    simp only [rb] at KR
    have HG : Blk (W.setCell ⟨R, 0, none⟩ (.int .i64 (k + 1))) g 9 cur := Blk.far (show Blk W g 9 cur from hgg) (by show g ≠ R; omega) _
    have HB2 : w.grownBy (W.setCell ⟨R, 0, none⟩ (.int .i64 (k + 1))) (some R) := grown_trans (grown_below hB) (grown_set W R 0 _)
    have HX := Lib.hid (hT (W.setCell ⟨R, 0, none⟩ (.int .i64 (k + 1))) g cap cur HB2 HR2 HG (by omega) (fun j x hx => by
      have := (congrArg (·[j]?) htk)
      simp only [List.getElem?_map, hx, Option.map_some, List.getElem?_take] at this
      split at this
      · rw [Array.getElem?_toList] at this; exact this
      · cases this) (by omega))
    rw [hlen] at HX hc KC
    have KD : (W.setCell ⟨R, 0, none⟩ (.int .i64 (k + 1))).heap[D]? = some (.deferred (some [])) := (Below.heap_setCell W ⟨R, 0, none⟩ _ D (by show D ≠ R; simp at hD; omega)).trans hK
    have HW := HG.cell 0
    have hW0 : cur[0]? = some (.string (tx (wd (rs l 0)))) := by
      have := (congrArg (·[0]?) htk)
      rw [List.getElem?_take, if_pos (by omega), Array.getElem?_toList, List.getElem?_map] at this
      rw [this]; simp [wl]
    rw [hW0] at HW
    clear hW0
    have hw1 : wrap64 (k + 1) = k + 1 := by unfold wrap64; omega
    have hw2 : ((k + 1 : Int) == 1) = false := by rw [beq_eq_false_iff_ne]; omega
    have hw3 : ((k + 1 : Int) == 2) = false := by rw [beq_eq_false_iff_ne]; omega
    have hw4 : ((k + 1 : Int) == 3) = false := by rw [beq_eq_false_iff_ne]; omega
    generalize tx (wd (rs l 0)) = w00 at HW hv0
    clear HR2 HG
    gi_wp2_with (refine ⟨trivial, ?_⟩; gi_at_call 65; refine (callsIn_wide.2 HX.out).mono ?_; rintro e W3 ⟨y, hy, rfl, hg3, hb3, hq3⟩)
    have KD3 : W3.heap[D]? = some (.deferred (some [])) := (hg3.block D (Array.getElem?_eq_some_iff.1 KD).1 (fun e => by have := hSw _ e; simp at hD; omega)).trans KD
    refine ⟨by simp, .inl ⟨_, _, rfl, run_takeDeferred KD3, ?_⟩⟩
    refine ⟨_, results_tmp rfl _ _ _, ?_⟩
    exact Post.put hQ (Post.after hSR ⟨y, hy, rfl, hg3, hb3, hq3⟩ HB2) (by simp at hD; omega) KD3 rfl _
  case stop =>
    rintro D c pre W _ _ h _
    exact h.elim
set_option maxRecDepth 100000 in
set_option maxHeartbeats 4000000 in
theorem read_none (m : Int) (l : List UInt8) (hL : Ln l 0) (w : World) (R : Nat) (k st sy : Int) (h v r nm : Value) (hG : 3 < w.heap.size)
    (hm : w.cell? ⟨3, 0, none⟩ = some (.int .i64 m)) (HR : Blk w R 73 (rb k st sy h v r nm)) :
    Calls Tryz.prog 35 #[.pointer (some ⟨R, 0, none⟩), .string (tx l)] w (Post w R (One R) 0 (fun _ : Unit => rb k st sy h v r nm) (fun _ _ => True) (fun _ => True)) := by
  obtain ⟨i0, hi, hz0, hz1, hz2⟩ := str_parts
  have hRl := HR.lt
  refine (callsIn_wide (n := 9)).1 ?_
  refine callsIn_of_wp_marks Tryz.func35 rfl trivial ?_ rfl
  simp only [Tryz.ntmps35, List.size_toArray, List.length_cons, List.length_nil, Nat.reduceAdd, Nat.reduceSub, Array.replicate_succ, Array.replicate_zero, List.push_toArray, List.append_toArray, List.nil_append, List.cons_append]
  gi_wp2_with (refine ⟨trivial, ?_⟩; gi_at_call 60; refine (callsIn_wide.2 (words_any _ _)).mono ?_; rintro e w' ⟨rfl, rfl⟩)
  have bO := Boxed.new w 71 (.slice none 0 0)
  have bN := Boxed.new (w.alloc (.cells #[.slice none 0 0] 71)) 9 (.string (tx l))
  rw [World.size_alloc] at bN
  have hB0 : Below w.heap.size w ((w.alloc (.cells #[.slice none 0 0] 71)).alloc (.cells #[.string (tx l)] 9)) := ((Below.refl _ w).alloc (Nat.le_refl _) _).alloc (by simp) _
  refine wpIn_rangeFunc_ownG rfl (by omega) (gf := 84) (lb := #[.pointer (some ⟨w.heap.size + 1, 0, none⟩)]) rfl trivial (enters_of Tryz.func84 (by kernel_rfl) rfl)
    (words_stops m l 0 hL (9 - 1) (by omega) (w.heap.size + 1) w.heap.size hG _ (by simp) (by simp; omega) ((hB0.cell (p := ⟨3, 0, none⟩) hG).trans hm) bN.cell) belowK_t (belowK_b (by simp; omega)) (Below.refl _ _) (fun _ => rfl)
    (fun pre W => (∃ v, Boxed W w.heap.size 71 v ∧ W.ownsRow w.heap.size 9 1 v pre.length (pre.map Value.string) ∧ True) ∧ Below w.heap.size w W)
    (fun _ _ _ => False)
    (OwnFrom.and (Own.from (holdsRow_own w.heap.size w.heap.size 71 9 1 (fun pre : List ByteArray => pre.length) (fun pre : List ByteArray => pre.map Value.string) (fun _ _ => True)) _) (ownFrom_below (Nat.le_refl _) (by simp; omega)))
    (fun _ _ _ _ _ hs _ _ => hs)
    ⟨⟨_, bO.alloc _, World.ownsRow_nil _ _ _ _, trivial⟩, hB0⟩
    (fun x => { tmps := #[.pointer (some ⟨R, 0, none⟩), .string (tx l), undef, undef, .int .i64 0, .pointer (some ⟨w.heap.size, 0, none⟩), .string x, .string (tx l), .func (.func 84) #[] #[.pointer (some ⟨w.heap.size + 1, 0, none⟩)], .string x, undef, undef, undef, undef, undef, undef, undef, undef, undef, undef, undef, undef, undef, undef, undef, undef, undef, undef, undef, undef, undef, undef, undef, undef, undef, undef, undef, undef, undef, undef, undef, undef, undef, undef, undef, undef, undef, undef, undef, undef, undef, undef, undef, undef, undef, undef, undef, undef, undef, undef, undef, undef], defers := [] }) ?assign ?body ?done ?stop
  case assign =>
    intro l x W K hK
    gi_wp2
    exact hK
  case body =>
    rintro l' pre x W _ hlt
    exact absurd hlt (Nat.not_lt_zero _)
  case done =>
    rintro D ys W hD rfl ⟨⟨vv, hv, hrow, _⟩, hB⟩ hK
    have hc := hv.cell
    have hfz := hv.frozen
    have HRW := HR.below hB hRl
    have KD3 := hK
    have hP : Post w R (One R) 0 (fun _ : Unit => rb k st sy h v r nm) (fun _ _ => True) (fun _ => True) (.returned (.int .i64 0)) W := ⟨(), trivial, rfl, grw_one (grown_below hB), HRW, trivial⟩
    have hP2 := Lib.hid (Post.put (fun _ => Stays.true) hP (D := D) (by simp at hD; omega) hK rfl (.deferred none))
    rcases hrow.2 with ⟨rfl, h0⟩ | ⟨g, cap, cur, rfl, hgb, hgg, hle, _, _, htk⟩
    · gi_wp2
      refine ⟨by simp, .inl ⟨_, _, rfl, run_takeDeferred KD3, ?_⟩⟩
      refine ⟨_, results_tmp rfl _ _ _, ?_⟩
      exact hP2.out
    · rw [wl_length] at hc
      gi_wp2
      refine ⟨by simp, .inl ⟨_, _, rfl, run_takeDeferred KD3, ?_⟩⟩
      refine ⟨_, results_tmp rfl _ _ _, ?_⟩
      exact hP2.out
  case stop =>
    rintro D c pre W _ _ h _
    exact h.elim
end Go.Proofs.YtbcihgimflljoaaGreatDoor
