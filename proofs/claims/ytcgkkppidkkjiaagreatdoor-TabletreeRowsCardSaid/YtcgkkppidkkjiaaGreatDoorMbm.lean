/- Append of one value onto a row of the call's own: the row ahead of it stays a row. -/
/- The walk of rowsOf's closure, at what the examples ask. -/
import Derived.Test.YtcgkkppidkkjiaaGreatDoorMae
import Derived.Deep.AppendLies
import Derived.Test.YtcgkkppidkkjiaaGreatDoorMbk
import Derived.Test.YtcgkkppidkkjiaaGreatDoorMad
import Derived.Deep.RegionHeldLaw
namespace Go.Proofs.YtcgkkppidkkjiaaGreatDoor
open Go.RowKit

/-- append of one value, and what the row ahead of it is behind it -/
theorem run_append_kept {P : Program} (w : World) (t ty : TypeId) (base : Nat) (e : TypeId) (i : TypeInfo) (z : Value) (bytes : Nat) (ht : P.underlying t = some (.slice e)) (hi : P.info? e = some i) (hz : i.zero = some z)
    (hsize : i.size = 1) (hby : i.bytes = bytes) (hzs : z.cells.size = 1)
    (A : Option Addr) (n c : Nat) (xs : List Value) (hown : w.ownsRow base e 1 (.slice A n c) n xs)
    (ad : Addr) (c2 : Nat) (u : Value) (hu : w.cell? ad = some u) (h1 : u.oneCell' = true)
    (h63 : n + 1 ≤ maxLen) (hbytes : (n + 1) * bytes ≤ 140737488355328) (hbase : base ≤ w.heap.size) :
    ∃ g cap w', (Builtin.append_ #[t, t] ty #[.slice A n c, .slice (some ad) 1 c2]).run P w = .ok (.slice (some ⟨g, 0, none⟩) (n + 1) cap) w' ∧
      w'.ownsRow base e 1 (.slice (some ⟨g, 0, none⟩) (n + 1) cap) (n + 1) (xs ++ [u]) ∧ w.grownBy w' (Value.slice A n c).ownBlock ∧ ((Value.slice A n c).ownBlock = some g ∨ g = w.heap.size) ∧ g < w'.heap.size ∧ w'.ownsRow base e 1 (.slice A n c) n xs := by
  have hcell : ∀ j v, ([u] : List Value)[j]? = some v → w.cell? (ad.add j) = some v := by
    intro j v hj
    match j, hj with
    | 0, hj => simp at hj; subst hj; simpa [Addr.add] using hu
  have hone : ∀ v ∈ ([u] : List Value), v.oneCell' = true := by
    intro v hv; simp at hv; subst hv; exact h1
  obtain ⟨g, cap, w', hr, h2, h3, h4, h5⟩ := run_append_lies (P := P) w t ty base e i z 1 bytes ht hi hz hsize hby hzs (by decide) (.slice A n c) n xs hown ad 1 c2 [u] (by simp) hcell hone (by decide) h63 hbytes hbase w.heap.size rfl
  refine ⟨g, cap, w', hr, h2, h3, h4, h5, ?_⟩
  rcases hown.2 with ⟨hv, hn⟩ | ⟨g0, cap0, cur, hv, hbg, hg, hnc, hcm, hcs, htake⟩
  · rw [hv]
    subst hn
    have hx : xs = [] := List.eq_nil_of_length_eq_zero (by simpa using hown.1)
    subst hx
    exact World.ownsRow_nil _ _ _ _
  · have hlen := hown.1
    injection hv with e1 e2 e3
    subst e1 e3
    by_cases hroom : n + 1 ≤ c
    · have hr2 := run_append_room (P := P) w t ty e i ht hi g0 n c cur hg ad 1 c2 [u] (by simp [hsize]) hcell hone hroom (by rw [hsize]; simp; omega)
      rw [hr] at hr2
      injection hr2 with _ hw
      subst hw
      refine ⟨hlen, .inr ⟨g0, c, _, rfl, hbg, setRow_heap w g0 cur _ e _ hg, hnc, hcm, ?_, ?_⟩⟩
      · simp only [List.size_toArray, List.length_append, List.length_take, List.length_drop, Array.length_toList, List.length_cons, List.length_nil, hsize]
        omega
      · rw [hsize, htake, ← hlen, List.append_assoc]
        exact List.take_left
    · have holds : ∀ j v, xs[j]? = some v → w.cell? ((⟨g0, 0, none⟩ : Addr).add j) = some v := hown.cells (g := g0) rfl
      have hb2 : Builtin.nextslicecap (n + 1) c * i.bytes ≤ 281474976710656 := by
        have := nextslicecap_le (need := n + 1) (old := c) (by omega)
        rw [hby]
        calc Builtin.nextslicecap (n + 1) c * bytes ≤ 2 * (n + 1) * bytes := Nat.mul_le_mul_right _ this
          _ = 2 * ((n + 1) * bytes) := by rw [Nat.mul_assoc]
          _ ≤ 281474976710656 := by omega
      have hr2 := run_append_grow (P := P) w t ty e i z ht hi hz ⟨g0, 0, none⟩ n c xs (by rw [hsize]; exact hlen) holds ad 1 c2 [u] (by simp [hsize]) hcell (by omega) (by unfold maxLen at h63; omega) hb2
      rw [hr] at hr2
      injection hr2 with _ hw
      subst hw
      refine ⟨hlen, .inr ⟨g0, c, cur, rfl, hbg, ?_, hnc, hcm, hcs, htake⟩⟩
      exact (Below.heap_alloc w.drew _ g0 (Array.getElem?_eq_some_iff.1 hg).1).trans hg
/-- at a step of a region that draws -/
theorem step_append_kept {P : Program} {w : World} {ops : Array Oper} {o : Oper} {a : Act} {K : Act → World → Prop} {Q : Exit → Act → World → Prop} {E : Prop} (hgd : o.guard = none) (s x : Operand) (t : TypeId)
    (ho : o.op = .call { callee := .builtin .append, args := #[s, x], argTypes := #[t, t] })
    (base : Nat) (e : TypeId) (i : TypeInfo) (z : Value) (bytes : Nat) (ht : P.underlying t = some (.slice e)) (hi : P.info? e = some i) (hz : i.zero = some z)
    (hsize : i.size = 1) (hby : i.bytes = bytes) (hzs : z.cells.size = 1)
    (A : Option Addr) (n c : Nat) (xs : List Value) (hs : a.eval s = .slice A n c) (hown : w.ownsRow base e 1 (.slice A n c) n xs)
    (ad : Addr) (c2 : Nat) (u : Value) (hx : a.eval x = .slice (some ad) 1 c2) (hu : w.cell? ad = some u) (h1 : u.oneCell' = true)
    (h63 : n + 1 ≤ maxLen) (hbytes : (n + 1) * bytes ≤ 140737488355328) (hbase : base ≤ w.heap.size)
    (h : ∀ g cap w', w'.ownsRow base e 1 (.slice (some ⟨g, 0, none⟩) (n + 1) cap) (n + 1) (xs ++ [u]) → w.grownBy w' (Value.slice A n c).ownBlock → ((Value.slice A n c).ownBlock = some g ∨ g = w.heap.size) → g < w'.heap.size → w'.ownsRow base e 1 (.slice A n c) n xs → K (a.put o.dst (.slice (some ⟨g, 0, none⟩) (n + 1) cap)) w') :
    if Region.wanted o (yielded ops a.tmps) = true then Oper.wp P o a w K Q else E := by
  have hw : Region.wanted o (yielded ops a.tmps) = true := by simp [Region.wanted, hgd]
  rw [if_pos hw]
  obtain ⟨g, cap, w', hr, h2, h3, h4, h5, h6⟩ := run_append_kept (P := P) w t o.type base e i z bytes ht hi hz hsize hby hzs A n c xs hown ad c2 u hu h1 h63 hbytes hbase
  unfold Oper.wp execOp
  simp only [ho, resolve, invoke, builtin, Sem.run_bind, Sem.run_pure, Result.andThen_ok, List.map_toArray, List.map_cons, List.map_nil, hs, hx, hr]
  exact h g cap w' h2 h3 h4 h5 h6
/-- the block of a row -/
def ob (A : Option Addr) (b : Nat) : Prop := (Value.slice A 0 0).ownBlock = some b
/-- two rows in one block have one capacity -/
theorem own_cap {w : World} {base base' n n' c c' k : Nat} {e e' : TypeId} {A A' : Option Addr} {xs ys : List Value} (h : w.ownsRow base e 1 (.slice A n c) n xs) (h' : w.ownsRow base' e' 1 (.slice A' n' c') n' ys) (ha : ob A k) (ha' : ob A' k) : c = c' := by
  rcases h.2 with ⟨hv, _⟩ | ⟨g, cap, cur, hv, _, hg, _, _, hs, _⟩
  · injection hv with e1; subst e1; cases ha
  · rcases h'.2 with ⟨hv', _⟩ | ⟨g', cap', cur', hv', _, hg', _, _, hs', _⟩
    · injection hv' with e1; subst e1; cases ha'
    · injection hv with e1 _ e3
      injection hv' with e1' _ e3'
      subst e1 e1' e3 e3'
      have q1 : g = k := by simpa [ob, Value.ownBlock] using ha
      have q2 : g' = k := by simpa [ob, Value.ownBlock] using ha'
      subst q1 q2
      rw [hg] at hg'
      injection hg' with hg'
      injection hg' with q
      subst q
      omega
/-- the shorter row in the block of a longer one -/
theorem own_take2 {w : World} {base g : Nat} {e : TypeId} {n c k : Nat} {xs : List Value} (h : w.ownsRow base e 1 (.slice (some ⟨g, 0, none⟩) n c) n xs) (hk : k ≤ n) : w.ownsRow base e 1 (.slice (some ⟨g, 0, none⟩) k c) k (xs.take k) := by
  rcases h.2 with ⟨hv, _⟩ | ⟨g', cap', cur, hv, hbg, hg, hnc, hcm, hcs, htake⟩
  · cases hv
  · injection hv with e1 _ e3
    injection e1 with e1
    injection e1 with e1
    subst e1 e3
    refine ⟨by rw [List.length_take, h.1]; omega, .inr ⟨g, c, cur, rfl, hbg, hg, by omega, hcm, hcs, ?_⟩⟩
    rw [← htake, List.take_take]
    congr 1
    omega
/-- a row behind what turned its block as a longer row, or another block -/
theorem own_back {w w' : World} {base n c c1 : Nat} {e : TypeId} {A A1 : Option Addr} {xs : List Value} {u : Value} (h : w.ownsRow base e 1 (.slice A n c) n xs) (h1 : w.ownsRow base e 1 (.slice A1 (n + 1) c1) (n + 1) (xs ++ [u])) (hf : Fr (ob A1) w (ob A1) w') (h2 : w'.ownsRow base e 1 (.slice A1 (n + 1) c1) (n + 1) (xs ++ [u])) : w'.ownsRow base e 1 (.slice A n c) n xs := by
  by_cases hq : ∃ k, ob A k ∧ ob A1 k
  · obtain ⟨k, q1, q2⟩ := hq
    have hc := own_cap h h1 q1 q2
    subst hc
    have hlen := h.1
    rcases h.2 with ⟨hv, _⟩ | ⟨g, cap, cur, hv, _⟩
    · injection hv with e1; subst e1; cases q1
    · injection hv with e1 _ e3
      subst e1 e3
      rcases h1.2 with ⟨hv', _⟩ | ⟨g', cap', cur', hv', _⟩
      · injection hv' with e1; subst e1; cases q2
      · injection hv' with e1' _ e3'
        subst e1' e3'
        have r1 : g = k := by simpa [ob, Value.ownBlock] using q1
        have r2 : g' = k := by simpa [ob, Value.ownBlock] using q2
        subst r1 r2
        have := own_take2 h2 (show n ≤ n + 1 by omega)
        rwa [show (xs ++ [u]).take n = xs by rw [show n = xs.length by omega]; exact List.take_left] at this
  · refine hf.row h (fun g hg hG => hq ⟨g, ?_, hG⟩)
    cases A with
    | none => cases hg
    | some ad => exact hg
end Go.Proofs.YtcgkkppidkkjiaaGreatDoor
namespace Go.Proofs.YtcgkkppidkkjiaaGreatDoor
open Go.RowKit

/-- what the closure has captured, as it lies; no row is there yet -/
structure WE (b0 b1 b3 b4 b5 Bi : Nat) (AH AN : Option Addr) (cH m cN : Nat) (lv : Nat → Int) (nx : Nat → List Int) (w : World) : Prop where
  k1 : Blk w b1 32 #[.int .i64 2, .slice AH 3 cH, .slice AN m cN]
  k3 : Blk w b3 24 #[.slice none 0 0]
  k4 : Blk w b4 3 #[.int .i64 1]
  k5 : Blk w b5 98 #[.func (.func 55) #[] #[.pointer (some ⟨b3, 0, none⟩), .pointer (some ⟨b1, 0, none⟩), .pointer (some ⟨b4, 0, none⟩), .pointer (some ⟨b5, 0, none⟩)]]
  nr : NR w b0 AN m lv nx
  lo : b1 < Bi ∧ b3 < Bi ∧ b4 < Bi ∧ b5 < Bi ∧ b0 ≤ b3 ∧ b3 < b5
  hi : Bi ≤ w.heap.size
section
variable {b0 b1 b3 b4 b5 Bi : Nat} {AH AN : Option Addr} {cH m cN : Nat} {lv : Nat → Int} {nx : Nat → List Int} {w w' : World}
theorem WE.below (h : WE b0 b1 b3 b4 b5 Bi AH AN cH m cN lv nx w) (hb : Below Bi w w') : WE b0 b1 b3 b4 b5 Bi AH AN cH m cN lv nx w' :=
  ⟨h.k1.below hb h.lo.1, h.k3.below hb h.lo.2.1, h.k4.below hb h.lo.2.2.1, h.k5.below hb h.lo.2.2.2.1, (h.nr.below ⟨hb.os, hb.tape, hb.output, hb.size, fun k hk => hb.block k (by have := h.lo; omega)⟩), h.lo, Nat.le_trans h.hi hb.size⟩
theorem WE.cells (h : WE b0 b1 b3 b4 b5 Bi AH AN cH m cN lv nx w) : w.cell? ⟨b1, 1, none⟩ = some (.slice AH 3 cH) ∧ w.cell? ⟨b1, 2, none⟩ = some (.slice AN m cN) ∧ w.cell? ⟨b3, 0, none⟩ = some (.slice none 0 0) ∧ w.cell? ⟨b4, 0, none⟩ = some (.int .i64 1) ∧ w.cell? ⟨b5, 0, none⟩ = some (.func (.func 55) #[] #[.pointer (some ⟨b3, 0, none⟩), .pointer (some ⟨b1, 0, none⟩), .pointer (some ⟨b4, 0, none⟩), .pointer (some ⟨b5, 0, none⟩)]) :=
  ⟨h.k1.three.2.1, h.k1.three.2.2.1, h.k3.one.1, h.k4.one.1, h.k5.one.1⟩
end
/-- cells below the lists', but that of the rows, are as they were -/
def KC (b3 Bi : Nat) (w w' : World) : Prop := ∀ p : Addr, p.block < Bi → p.block ≠ b3 → w'.cell? p = w.cell? p
theorem KC.trans {b3 Bi : Nat} {w w' w'' : World} (h : KC b3 Bi w w') (k : KC b3 Bi w' w'') : KC b3 Bi w w'' := fun p h1 h2 => (k p h1 h2).trans (h p h1 h2)
theorem KC.of {b3 Bi : Nat} {w w' : World} (h : Below Bi w w') : KC b3 Bi w w' := fun p h1 _ => h.cell h1
/-- the closure at a list of k elements -/
def WC (b0 b1 b3 b4 b5 Bi : Nat) (AH AN : Option Addr) (cH m cN : Nat) (lv : Nat → Int) (nx : Nat → List Int) (k : Nat) (ins : List Int) (i : Int) (D : World → Option Addr → Nat → World → Prop) : Prop :=
  ∀ (w : World) (A : Option Addr) (c : Nat), WE b0 b1 b3 b4 b5 Bi AH AN cH m cN lv nx w → w.ownsRow Bi 3 1 (.slice A k c) k (il ins) → Calls Tryz.prog 55 #[.slice A k c, .int .i64 i, .pointer (some ⟨b3, 0, none⟩), .pointer (some ⟨b1, 0, none⟩), .pointer (some ⟨b4, 0, none⟩), .pointer (some ⟨b5, 0, none⟩)] w fun e w' => (∃ v, e = .returned v) ∧ D w A c w' ∧ KC b3 Bi w w'
/-- nothing but the list's block has turned, and the list is as it was -/
def KeptR (Bi k : Nat) (ins : List Int) (w : World) (A : Option Addr) (c : Nat) (w' : World) : Prop := Fr (ob A) w (ob A) w' ∧ w'.ownsRow Bi 3 1 (.slice A k c) k (il ins)
theorem ob_own {A : Option Addr} {n c b : Nat} : ob A b ↔ (Value.slice A n c).ownBlock = some b := by cases A <;> rfl
theorem ob_ge {w : World} {A : Option Addr} {base k n c : Nat} {e : TypeId} {v : List Value} (h : w.ownsRow base e k (.slice A n c) n v) : ∀ b, ob A b → base ≤ b := fun b hb => (h.lt b (ob_own.1 hb)).1
/-- behind an append onto the list -/
theorem ap_fr {w w1 : World} {A : Option Addr} {n c g : Nat} {o : Obj} (hg : (w.alloc o).drew.grownBy w1 (Value.slice A n c).ownBlock) (hat : (Value.slice A n c).ownBlock = some g ∨ g = (w.alloc o).drew.heap.size) : Fr (ob A) w (ob (some ⟨g, 0, none⟩)) w1 := by
  have hs : (w.alloc o).drew.heap.size = w.heap.size + 1 := World.size_alloc _ _
  refine ⟨hg.os, hg.tape, hg.output, by have := hg.size; omega, fun k hk hn => ?_, fun k hk => ?_⟩
  · rw [hg.block k (by omega) (fun e => hn (ob_own.2 e.symm))]
    exact Below.heap_alloc w o k hk
  · have e : g = k := by simpa [ob, Value.ownBlock] using hk
    subst e
    rcases hat with h | h
    · exact .inl (ob_own.2 h)
    · right; omega
section
variable {b0 b1 b3 b4 b5 Bi : Nat} {AH AN : Option Addr} {cH m cN : Nat} {lv : Nat → Int} {nx : Nat → List Int}
set_option maxRecDepth 100000 in
set_option maxHeartbeats 2000000 in
/-- at the end of the way, where the default leads there -/
theorem wk_leaf (ins : List Int) (x : Int) (hx : ig ins 1 = x) : WC b0 b1 b3 b4 b5 Bi AH AN cH m cN lv nx 3 ins x (KeptR Bi 3 ins) := by
  intro w A c hw ho
  obtain ⟨c1, c2, c3, c4, c5⟩ := hw.cells
  have ID := Lib.hid (show ∀ W, Below w.heap.size w W → Calls Tryz.prog 56 #[.slice A 3 c, .int .i64 1, .int .i64 x] W fun e W' => e = .returned (.bool true) ∧ W = W' from fun W hb => (isdef_any A 3 c 1 x ins W ((Reads.of_own ho).later hb) (by omega) (by omega)).mono fun e W' ⟨he, hx2⟩ => ⟨by rw [he, hx]; simp, hx2⟩)
  have HO := Lib.hid ho
  clear hw ho hx
  go_enter Tryz.func55, Tryz.ntmps55
  go_wp2_with (go_at_call 56; (with_reducible refine (ID.out _ (Below.refl _ _)).mono ?_); rintro e w1 ⟨rfl, rfl⟩)
  refine bodyPost_ret (results_none rfl _ _ _) rfl ?_
  exact ⟨⟨_, rfl⟩, ⟨Fr.refl _ _, HO.out⟩, fun _ _ _ => rfl⟩
set_option maxRecDepth 100000 in
set_option maxHeartbeats 4000000 in
/-- a node with two equal elements -/
theorem wk_same (k : Nat) (hk : k < 3) (ins : List Int) (i : Nat) (hi : i < m) (a : Int) (hn : nx i = [a, a]) {D D' : World → Option Addr → Nat → World → Prop}
    (HC : WC b0 b1 b3 b4 b5 Bi AH AN cH m cN lv nx (k + 1) (ins ++ [-1 - (k : Int)]) a D')
    (HD : ∀ w A c w1 A1 c1 w', WE b0 b1 b3 b4 b5 Bi AH AN cH m cN lv nx w → w.ownsRow Bi 3 1 (.slice A k c) k (il ins) → Fr (ob A) w (ob A1) w1 → w1.ownsRow Bi 3 1 (.slice A k c) k (il ins) → w1.ownsRow Bi 3 1 (.slice A1 (k + 1) c1) (k + 1) (il (ins ++ [-1 - (k : Int)])) → D' w1 A1 c1 w' → D w A c w') :
    WC b0 b1 b3 b4 b5 Bi AH AN cH m cN lv nx k ins (i : Int) D := by
  intro w A c hw ho
  obtain ⟨i0, hii, hz0, hz1, hz2⟩ := info_parts Tryz.info_int
  obtain ⟨c1, c2, c3, c4, c5⟩ := hw.cells
  obtain ⟨gN, oN, rfl, hgN, hcN⟩ := hw.nr (by omega)
  obtain ⟨Ai, ci, n1, n2, n3⟩ := hcN i hi
  rw [hn] at n2 n3
  simp only [List.length_cons, List.length_nil, Nat.zero_add, Nat.reduceAdd] at n2 n3
  have hsz := hw.hi
  have hlo := hw.lo
  have hbs : b0 ≤ w.heap.size := by omega
  have MN := Lib.hid (show ∀ W, Below w.heap.size w W → Calls Tryz.prog 58 #[.slice Ai 2 ci] W fun e W' => e = .returned (.int .i64 a) ∧ W = W' from fun W hb => (min_two Ai ci a a W ((n3.more hbs).later hb)).mono fun e W' ⟨he, hx⟩ => ⟨by rw [he, Int.min_self], hx⟩)
  have MX := Lib.hid (show ∀ W, Below w.heap.size w W → Calls Tryz.prog 59 #[.slice Ai 2 ci] W fun e W' => e = .returned (.int .i64 a) ∧ W = W' from fun W hb => (max_two Ai ci a a W ((n3.more hbs).later hb)).mono fun e W' ⟨he, hx⟩ => ⟨by rw [he, Int.max_self], hx⟩)
  obtain ⟨ad, hAi, hadB, _⟩ := il_at n3 (show 0 < 2 by omega)
  obtain ⟨ad', rfl, q0, q1⟩ := il_two (n3.more hbs)
  injection hAi with hAi
  subst hAi
  have e0 : ((k : Int) == 3) = false := by rw [beq_eq_false_iff_ne]; omega
  have e1 : IntKind.i64.wrap (-1 - (k : Int)) = -1 - (k : Int) := IntWalk.i64_in _ ⟨by omega, by omega⟩
  have hiI : (i : Int) < (m : Int) := by omega
  have HW := Lib.hid hw
  have HO := Lib.hid ho
  have HHD := Lib.hid HD
  have HHC := Lib.hid (fun w A c h1 h2 => HC w A c h1 h2)
  have OD := Lib.hid (show (w.alloc (.cells #[.int .i64 (-1 - (k : Int))] 3)).drew.ownsRow Bi 3 1 (.slice A k c) k (il ins) from (ho.alloc (.cells #[.int .i64 (-1 - (k : Int))] 3)))
  have CE := Lib.hid (show (w.alloc (.cells #[.int .i64 (-1 - (k : Int))] 3)).drew.cell? ⟨w.heap.size, 0, none⟩ = some (.int .i64 (-1 - (k : Int))) from (Blk.new w 3 #[.int .i64 (-1 - (k : Int))]).cell 0)
  have HBZ := Lib.hid (show Bi ≤ (w.alloc (.cells #[.int .i64 (-1 - (k : Int))] 3)).drew.heap.size from by show Bi ≤ (w.alloc (.cells #[.int .i64 (-1 - (k : Int))] 3)).heap.size; rw [World.size_alloc]; exact Nat.le_succ_of_le hsz)
  have HLO := Lib.hid hlo
  have HAB := Lib.hid hadB
  have Q0 := Lib.hid q0
  have HLEN := Lib.hid (show k + 1 ≤ maxLen ∧ (k + 1) * 8 ≤ 140737488355328 from by unfold maxLen; omega)
  clear hw ho HD HC hn n1 n3 hcN q1 hi hbs hlo hadB
  have S0 : w.cell? ⟨b5, 0, none⟩ = some (.func (.func 55) #[] #[.pointer (some ⟨b3, 0, none⟩), .pointer (some ⟨b1, 0, none⟩), .pointer (some ⟨b4, 0, none⟩), .pointer (some ⟨b5, 0, none⟩)]) ∧ w.cell? ad' = some (.int .i64 a) := ⟨c5, q0⟩
  go_enter Tryz.func55, Tryz.ntmps55
  go_wp2_with (first | (go_at_call 58; (with_reducible refine (MN.out _ (Below.refl _ _)).mono ?_); rintro e w1 ⟨rfl, rfl⟩) | (go_at_call 59; (with_reducible refine (MX.out _ (Below.refl _ _)).mono ?_); rintro e w1 ⟨rfl, rfl⟩) | fail)
  go_region_held_law? (fun W => W.cell? ⟨b5, 0, none⟩ = some (.func (.func 55) #[] #[.pointer (some ⟨b3, 0, none⟩), .pointer (some ⟨b1, 0, none⟩), .pointer (some ⟨b4, 0, none⟩), .pointer (some ⟨b5, 0, none⟩)]) ∧ W.cell? ad' = some (.int .i64 a))
    (first | assumption | go_keep)
    (first
    | (refine step_append_kept (by rfl) _ _ _ (by rfl) Bi 3 i0 (.int .i64 0) 8 Tryz.underlying27 hii hz0 hz1 hz2 rfl A k c (il ins) (by rfl) OD.out ⟨w.heap.size, 0, none⟩ 1 (.int .i64 (-1 - (k : Int))) (by rfl) CE.out (by rfl) HLEN.out.1 HLEN.out.2 HBZ.out ?_; intro g1 d1 w1 hown1 hgrow hat hlt hkept; have F1 := Lib.hid (ap_fr hgrow hat); have B1 := Lib.hid (F1.out.below (ob_ge HO.out) hsz); have W1 := Lib.hid (HW.out.below B1.out); have O1 := Lib.hid (show w1.ownsRow Bi 3 1 (.slice (some ⟨g1, 0, none⟩) (k + 1) d1) (k + 1) (il (ins ++ [-1 - (k : Int)])) from by rw [il_add]; exact hown1); have P1 := Lib.hid hkept; have S1 : w1.cell? ⟨b5, 0, none⟩ = some (.func (.func 55) #[] #[.pointer (some ⟨b3, 0, none⟩), .pointer (some ⟨b1, 0, none⟩), .pointer (some ⟨b4, 0, none⟩), .pointer (some ⟨b5, 0, none⟩)]) ∧ w1.cell? ad' = some (.int .i64 a) := ⟨W1.out.cells.2.2.2.2, (B1.out.cell (by have := HAB.out; have := HLO.out; omega)).trans Q0.out⟩; clear hown1 hgrow hat hlt hkept)
    | ((with_reducible refine (HHC.out _ _ _ W1.out O1.out).mono ?_); rintro e w2 ⟨⟨v, rfl⟩, hD, hK⟩; have D2 := Lib.hid hD; have K2 := Lib.hid hK; have S2 : w2.cell? ⟨b5, 0, none⟩ = some (.func (.func 55) #[] #[.pointer (some ⟨b3, 0, none⟩), .pointer (some ⟨b1, 0, none⟩), .pointer (some ⟨b4, 0, none⟩), .pointer (some ⟨b5, 0, none⟩)]) ∧ w2.cell? ad' = some (.int .i64 a) := ⟨(hK ⟨b5, 0, none⟩ HLO.out.2.2.2.1 (by have := HLO.out; show b5 ≠ b3; omega)).trans S1.1, (hK ad' (by have := HAB.out; have := HLO.out; omega) (by have := HAB.out; have := HLO.out; omega)).trans S1.2⟩; clear hD hK))
  all_goals
    go_wp2_with fail
    refine bodyPost_ret (results_none rfl _ _ _) rfl ?_
    exact ⟨⟨_, rfl⟩, HHD.out _ _ _ _ _ _ _ HW.out HO.out F1.out P1.out O1.out D2.out, (KC.of B1.out).trans K2.out⟩
end
end Go.Proofs.YtcgkkppidkkjiaaGreatDoor
