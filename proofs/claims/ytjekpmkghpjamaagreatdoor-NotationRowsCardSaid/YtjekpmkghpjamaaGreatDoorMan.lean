/- The walks of examine (whole), reordered$1 and reordered. -/
import Derived.Test.YtjekpmkghpjamaaGreatDoorMab
import Derived.Test.YtjekpmkghpjamaaGreatDoorMaj
import Derived.Test.YtjekpmkghpjamaaGreatDoorMam
import Derived.Test.YtjekpmkghpjamaaGreatDoorMal
import Derived.Test.YtjekpmkghpjamaaGreatDoorMae
import Derived.Test.YtjekpmkghpjamaaGreatDoorMaa
import Derived.Test.YtjekpmkghpjamaaGreatDoorMaf
import Derived.Test.YtjekpmkghpjamaaGreatDoorMad
import Derived.Test.YtjekpmkghpjamaaGreatDoorMak
import Derived.Test.YtjekpmkghpjamaaGreatDoorMac
import Derived.Test.YtjekpmkghpjamaaGreatDoorMag
import Derived.Test.YtjekpmkghpjamaaGreatDoorMai
import Derived.Test.YtjekpmkghpjamaaGreatDoorMah
import Derived.Below
import Derived.BigQuiet
import Derived.Carry
import Derived.Deep.AppendLies
import Derived.Deep.CutRange
import Derived.Deep.Draws
import Derived.Deep.QuietTactic
import Derived.Deep.RegionHeldLaw
import Derived.Deep.RegionLaw
import Derived.DeepKeys4
import Derived.IntWalk
import Derived.Laws.MakeOwn
import Derived.Laws.OwnMore
import Derived.Laws.Rows
import Derived.Lib.Hide
import Derived.LoopN
import Derived.Maps.OwnOps
import Derived.OwnWalk
import Derived.Shelf.Abstract
import Derived.Sort.Statements
import Derived.StillTail
import Derived.StillTailTactics
import Derived.Test.YtjekpmkghpjamaaGreatDoorRows
import Derived.WalkKit
namespace Go.Proofs.YtjekpmkghpjamaaGreatDoor
open Go.RowKit
theorem exam_any {sn fb kb : Nat} (hs1 : 2 ≤ sn) (hs2 : sn ≤ 8) (p : Int) : ∀ (f : Nat) (n : Int) (s s' : List Ndv × Mem) (r : List Int) (w : World) (G : Nat → Prop), I32 n → examF sn p f n s = some (r, s') → Exs sn fb kb w G s →
    Calls Tryz.prog 105 #[.pointer (some ⟨fb, 0, none⟩), .int .i32 n, .int .i64 p, .map (some kb)] w fun e w' => ExOut sn fb kb w G r s' e w'
  | 0, n, s, s', r, w, G, _, hx, _ => by simp [examF] at hx
  | f + 1, n, s, s', r, w, G, hn, hx, h => by
    simp only [examF] at hx
    cases hk : nodeF (sn : Int) s.1 n with
    | none => rw [hk] at hx; cases hx
    | some nd =>
      rw [hk] at hx
      simp only [Option.bind_some] at hx
      split at hx
      · next hp =>
        simp only [Option.some.injEq, Prod.mk.injEq] at hx
        obtain ⟨rfl, rfl⟩ := hx
        exact exam_hit h hk hp
      · next hp =>
        cases hR : s.2.lookup n with
        | some R =>
          rw [hR] at hx
          simp only [Option.some.injEq, Prod.mk.injEq] at hx
          obtain ⟨rfl, rfl⟩ := hx
          exact exam_memo hn h hk hp hR
        | none =>
          rw [hR] at hx
          simp only at hx
          cases hr : rowF (examF sn p f) (nd.r.take sn) s with
          | none => rw [hr] at hx; cases hx
          | some q =>
            obtain ⟨rows, s1⟩ := q
            rw [hr] at hx
            simp only [Option.bind_some] at hx
            cases ha : rowF (fun (j : Nat) L => addF (sn : Int) L (colN nd.lv rows j)) (List.range sn) s1.1 with
            | none => rw [ha] at hx; cases hx
            | some q =>
              obtain ⟨res, L2⟩ := q
              rw [ha] at hx
              simp only [Option.bind_some, Option.some.injEq, Prod.mk.injEq] at hx
              obtain ⟨rfl, rfl⟩ := hx
              refine exam_new hs1 hs2 ?_ hn h hk hp hR hr ha
              intro n' s1' s2' r' w1 G1 hn' hx' h'
              exact exam_any hs1 hs2 p f n' s1' s2' r' w1 G1 hn' hx' h'

/-- the elements of a turned node -/
def elR (sn : Nat) (os : List Int) (s : List Ndv × Mem) (n : Int) (l : Nat) : Option (List Int × (List Ndv × Mem)) := examF sn ((os.length : Int) - ig os (os.length - l)) 40 n s
/-- the memory that reordered reads and turns -/
def StR (sn fb kb q3 q7 q5 q8 : Nat) (os : List Int) (w : World) (G : Nat → Prop) (s : List Ndv × Mem) : Prop :=
  ∃ X A c, Exs sn fb kb w X s ∧ (∀ k, X k → G k ∧ k ≠ q3 ∧ k ≠ q7 ∧ k ≠ q5 ∧ k ≠ q8 ∧ ∀ ad : Addr, 0 < os.length → A = some ad → k ≠ ad.block) ∧ Blk w q3 105 #[.pointer (some ⟨fb, 0, none⟩)] ∧ Blk w q7 3 #[.int .i64 (os.length : Int)] ∧
    Blk w q5 36 #[.slice A os.length c] ∧ Blk w q8 147 #[.map (some kb)] ∧ Reads w w.heap.size A os.length (il os) ∧ G q3 ∧ G q7 ∧ G q5 ∧ G q8 ∧ (∀ ad, 0 < os.length → A = some ad → G ad.block) ∧ ∀ k, G k → k < w.heap.size
theorem StR.keep {sn fb kb q3 q7 q5 q8 : Nat} {os : List Int} {w w' : World} {G H H' : Nat → Prop} {s : List Ndv × Mem} (h : StR sn fb kb q3 q7 q5 q8 os w G s) (hf : Fr H w H' w') (hd : ∀ k, G k → ¬ H k) : StR sn fb kb q3 q7 q5 q8 os w' G s := by
  obtain ⟨X, A, c, h1, h2, h3, h4, h5, h6, h7, g3, g7, g5, g8, gA, gl⟩ := h
  exact ⟨X, A, c, h1.keep hf (fun k hk => hd k (h2 k hk).1), h2, hf.blk h3 (hd _ g3), hf.blk h4 (hd _ g7), hf.blk h5 (hd _ g5), hf.blk h6 (hd _ g8), hf.reads h7 (fun h0 ad e => hd _ (gA ad h0 e)), g3, g7, g5, g8, gA, fun k hk => Nat.lt_of_lt_of_le (gl k hk) hf.size⟩
/-- behind an examination -/
theorem StR.turn {sn fb kb q3 q7 q5 q8 : Nat} {os : List Int} {w : World} {G : Nat → Prop} {s : List Ndv × Mem} (h : StR sn fb kb q3 q7 q5 q8 os w G s) : ∃ X, Exs sn fb kb w X s ∧ (∀ k, X k → k ≠ q3 ∧ k ≠ q7 ∧ k ≠ q5 ∧ k ≠ q8 ∧ ∀ A c, Blk w q5 36 #[.slice A os.length c] → ∀ ad : Addr, 0 < os.length → A = some ad → k ≠ ad.block) ∧ ∀ w' X' s', Exs sn fb kb w' X' s' → Fr X w X' w' → StR sn fb kb q3 q7 q5 q8 os w' (fun k => G k ∨ X' k) s' ∧ Fr G w (fun k => G k ∨ X' k) w' := by
  obtain ⟨X, A, c, h1, h2, h3, h4, h5, h6, h7, g3, g7, g5, g8, gA, gl⟩ := h
  refine ⟨X, h1, fun k hk => ⟨(h2 k hk).2.1, (h2 k hk).2.2.1, (h2 k hk).2.2.2.1, (h2 k hk).2.2.2.2.1, fun A' c' hb ad h0 e => ?_⟩, fun w' X' s' hx hf => ⟨⟨X', A, c, hx, fun k hk => ?_, hf.blk h3 (fun h => (h2 _ h).2.1 rfl), hf.blk h4 (fun h => (h2 _ h).2.2.1 rfl), hf.blk h5 (fun h => (h2 _ h).2.2.2.1 rfl), hf.blk h6 (fun h => (h2 _ h).2.2.2.2.1 rfl), hf.reads h7 (fun h0 ad e h => (h2 _ h).2.2.2.2.2 ad h0 e rfl), .inl g3, .inl g7, .inl g5, .inl g8, fun ad h0 e => .inl (gA ad h0 e), fun k hk => ?_⟩, hf.weak (fun k hk => (h2 k hk).1) (fun k hk => ?_)⟩⟩
  · have := hb.symm.trans h5
    injection this with this
    injection this with this
    simp at this
    exact (h2 k hk).2.2.2.2.2 ad h0 (this.1 ▸ e)
  · rcases hf.new k hk with h | h
    · exact ⟨.inr hk, (h2 k h).2⟩
    · refine ⟨.inr hk, fun e => ?_, fun e => ?_, fun e => ?_, fun e => ?_, fun ad h0 e e' => ?_⟩
      · have := gl _ g3; omega
      · have := gl _ g7; omega
      · have := gl _ g5; omega
      · have := gl _ g8; omega
      · have := gl _ (gA ad h0 e); omega
  · rcases hk with hk | hk
    · exact Nat.lt_of_lt_of_le (gl k hk) hf.size
    · exact hx.lt k hk
  · rcases hk with hk | hk
    · exact .inl hk
    · rcases hf.new k hk with h | h
      · exact .inl (h2 k h).1
      · exact .inr h
theorem rowF_inv {ι α τ : Type} {v : ι → τ → Option (α × τ)} {P : α → Prop} {I : τ → Prop} (h : ∀ x t y t', v x t = some (y, t') → I t → P y ∧ I t') : ∀ {l : List ι} {t t' : τ} {ys : List α}, rowF v l t = some (ys, t') → I t → (∀ y ∈ ys, P y) ∧ I t' := by
  intro l
  induction l with
  | nil => intro t t' ys hr hI; simp only [rowF, Option.some.injEq, Prod.mk.injEq] at hr; obtain ⟨rfl, rfl⟩ := hr; exact ⟨by simp, hI⟩
  | cons x l ih =>
    intro t t' ys hr hI
    obtain ⟨y, zs, t1, h1, h2, rfl⟩ := rowF_cons hr
    obtain ⟨p1, i1⟩ := h _ _ _ _ h1 hI
    obtain ⟨p2, i2⟩ := ih h2 i1
    exact ⟨fun z hz => by
      rcases List.mem_cons.1 hz with rfl | hz
      · exact p1
      · exact p2 z hz, i2⟩
/-- what is in range -/
def Inr (sn : Nat) (s : List Ndv × Mem) : Prop := (∀ n ∈ s.1, Nd8 n) ∧ (sn : Int) + (s.1.length : Int) ≤ 2147483647 ∧ ∀ n R, s.2.lookup n = some R → R8 R
theorem addF_nd {st r : Int} {L L2 : List Ndv} {n : Ndv} (h : addF st L n = some (r, L2)) (hL : ∀ m ∈ L, Nd8 m) (hn : Nd8 n) : ∀ m ∈ L2, Nd8 m := by
  unfold addF at h
  cases hx : L.idxOf? n with
  | some i =>
    rw [hx] at h
    simp only [Option.some.injEq, Prod.mk.injEq] at h
    obtain ⟨_, rfl⟩ := h
    exact hL
  | none =>
    rw [hx] at h
    simp only at h
    split at h
    · simp only [Option.some.injEq, Prod.mk.injEq] at h
      obtain ⟨_, rfl⟩ := h
      intro m hm
      rcases List.mem_append.1 hm with hm | hm
      · exact hL m hm
      · simp at hm; subst hm; exact hn
    · cases h
theorem exam_R8 {sn : Nat} (hs2 : sn ≤ 8) (p : Int) : ∀ (f : Nat) (n : Int) (s s' : List Ndv × Mem) (r : List Int), examF sn p f n s = some (r, s') → Inr sn s → R8 r ∧ Inr sn s'
  | 0, n, s, s', r, hx, _ => by simp [examF] at hx
  | f + 1, n, s, s', r, hx, hI => by
    simp only [examF] at hx
    cases hk : nodeF (sn : Int) s.1 n with
    | none => rw [hk] at hx; cases hx
    | some nd =>
      have hnd := hI.1 nd (nodeF_mem hk)
      rw [hk] at hx
      simp only [Option.bind_some] at hx
      split at hx
      · next hp =>
        simp only [Option.some.injEq, Prod.mk.injEq] at hx
        obtain ⟨rfl, rfl⟩ := hx
        exact ⟨hnd.2.2, hI⟩
      · next hp =>
        cases hR : s.2.lookup n with
        | some R =>
          rw [hR] at hx
          simp only [Option.some.injEq, Prod.mk.injEq] at hx
          obtain ⟨rfl, rfl⟩ := hx
          exact ⟨hI.2.2 n R hR, hI⟩
        | none =>
          rw [hR] at hx
          simp only at hx
          cases hr : rowF (examF sn p f) (nd.r.take sn) s with
          | none => rw [hr] at hx; cases hx
          | some q =>
            obtain ⟨rows, s1⟩ := q
            rw [hr] at hx
            simp only [Option.bind_some] at hx
            cases ha : rowF (fun (j : Nat) L => addF (sn : Int) L (colN nd.lv rows j)) (List.range sn) s1.1 with
            | none => rw [ha] at hx; cases hx
            | some q =>
              obtain ⟨res, L2⟩ := q
              rw [ha] at hx
              simp only [Option.bind_some, Option.some.injEq, Prod.mk.injEq] at hx
              obtain ⟨rfl, rfl⟩ := hx
              obtain ⟨r1, i1⟩ := rowF_inv (fun x t y t' h hI => exam_R8 hs2 p f x t t' y h hI) hr hI
              have hrl : rows.length ≤ 8 := by rw [rowF_len hr]; simp; omega
              have hal : res.length = sn := by rw [rowF_len ha]; simp
              have key : ∀ (l : List Nat), (∀ x ∈ l, x < 8) → ∀ (L L' : List Ndv) (ys : List Int), rowF (fun (j : Nat) L => addF (sn : Int) L (colN nd.lv rows j)) l L = some (ys, L') → ((∀ m ∈ L, Nd8 m) ∧ (sn : Int) + (L.length : Int) ≤ 2147483647) → (∀ y ∈ ys, I32 y) ∧ ((∀ m ∈ L', Nd8 m) ∧ (sn : Int) + (L'.length : Int) ≤ 2147483647) := by
                intro l
                induction l with
                | nil => intro _ L L' ys h hI; simp only [rowF, Option.some.injEq, Prod.mk.injEq] at h; obtain ⟨rfl, rfl⟩ := h; exact ⟨by simp, hI⟩
                | cons x l ih =>
                  intro hl L L' ys h hI
                  obtain ⟨y, zs, t1, h1, h2, rfl⟩ := rowF_cons h
                  have e1 := addF_rng h1 (by omega) hI.2
                  have e2 := addF_nd h1 hI.1 ⟨hnd.1, hnd.2.1, rows_R8 hrl (hl x (by simp)) r1⟩
                  obtain ⟨p2, i2⟩ := ih (fun z hz => hl z (by simp [hz])) _ _ _ h2 ⟨e2, e1.2.2⟩
                  exact ⟨fun z hz => by
                    rcases List.mem_cons.1 hz with rfl | hz
                    · exact ⟨by omega, by omega⟩
                    · exact p2 z hz, i2⟩
              obtain ⟨k1, k2, k3⟩ := key (List.range sn) (fun x hx => by have := List.mem_range.1 hx; omega) _ _ _ ha ⟨i1.1, i1.2.1⟩
              have hR8 : R8 (res ++ List.replicate (8 - sn) 0) := by
                refine ⟨by simp; omega, fun x hx => ?_⟩
                rcases List.mem_append.1 hx with h | h
                · exact k1 x h
                · have := List.eq_of_mem_replicate h; omega
              refine ⟨hR8, k2, k3, fun m R hm => ?_⟩
              simp only [List.lookup] at hm
              split at hm
              · injection hm with hm; subst hm; exact hR8
              · exact i1.2.2 m R hm
theorem Exs.inr {sn fb kb : Nat} {w : World} {G : Nat → Prop} {s : List Ndv × Mem} (h : Exs sn fb kb w G s) : Inr sn s := by
  obtain ⟨H, hf, hHG, hm, hG1, hG2, hRR⟩ := h
  exact ⟨hf.st2.2.2.2.2.1, hf.st2.2.2.2.2.2.2.2, hRR⟩
set_option maxRecDepth 100000 in
set_option maxHeartbeats 4000000 in
theorem reo1_any {sn fb kb q3 q7 q5 q8 : Nat} {os : List Int} {w : World} {G : Nat → Prop} {s s' : List Ndv × Mem} {n : Int} {l : Nat} {r : List Int} (hs1 : 2 ≤ sn) (hs2 : sn ≤ 8) (hl1 : 1 ≤ l) (hl2 : l ≤ os.length) (ho : os.length ≤ 100) (hob : ∀ x ∈ os, 0 ≤ x ∧ x < 100) (hn : I32 n)
    (h : StR sn fb kb q3 q7 q5 q8 os w G s) (hx : elR sn os s n l = some (r, s')) :
    R8 r ∧ Calls Tryz.prog 104 #[.int .i32 n, .int .i64 (l : Int), .pointer (some ⟨q3, 0, none⟩), .pointer (some ⟨q7, 0, none⟩), .pointer (some ⟨q5, 0, none⟩), .pointer (some ⟨q8, 0, none⟩)] w fun e w' => ∃ G', e = .returned (rowV r) ∧ StR sn fb kb q3 q7 q5 q8 os w' G' s' ∧ Fr G w G' w' := by
  obtain ⟨X, hX, hXn, hT⟩ := h.turn
  have hR8 := (exam_R8 hs2 _ _ _ _ _ _ hx hX.inr).1
  refine ⟨hR8, ?_⟩
  have hx : examF sn ((os.length : Int) - ig os (os.length - l)) 40 n s = some (r, s') := hx
  have hko : os.length - l < os.length := by omega
  have hkb := hob _ (ig_mem hko)
  obtain ⟨X', A, c, _, _, g3, g7, g5, g8, gR, _⟩ := id h
  obtain ⟨ad, rfl, hadl, hcel⟩ := il_at gR hko
  have B1 := Lib.hid ((Below.refl w.heap.size w).alloc (Nat.le_refl _) (.cells #[.int .i32 0, .int .i32 0, .int .i32 0, .int .i32 0, .int .i32 0, .int .i32 0, .int .i32 0, .int .i32 0] 150))
  have K1 := Lib.hid (Blk.new w 150 #[.int .i32 0, .int .i32 0, .int .i32 0, .int .i32 0, .int .i32 0, .int .i32 0, .int .i32 0, .int .i32 0])
  have CC := Lib.hid (fun p : LowW (w.alloc (.cells #[.int .i32 0, .int .i32 0, .int .i32 0, .int .i32 0, .int .i32 0, .int .i32 0, .int .i32 0, .int .i32 0] 150)).heap.size (w.alloc (.cells #[.int .i32 0, .int .i32 0, .int .i32 0, .int .i32 0, .int .i32 0, .int .i32 0, .int .i32 0, .int .i32 0] 150)) => exam_any hs1 hs2 _ _ _ _ _ _ _ _ hn hx (hX.below (B1.out.trans (p.below.mono B1.out.size))))
  have hle : w.heap.size < (w.alloc (.cells #[.int .i32 0, .int .i32 0, .int .i32 0, .int .i32 0, .int .i32 0, .int .i32 0, .int .i32 0, .int .i32 0] 150)).heap.size := by simp
  have d3 := fun p => LowW.cell (B := (w.alloc (.cells #[.int .i32 0, .int .i32 0, .int .i32 0, .int .i32 0, .int .i32 0, .int .i32 0, .int .i32 0, .int .i32 0] 150)).heap.size) (a := ⟨q3, 0, none⟩) (Nat.lt_trans g3.lt hle) (g3.alloc (.cells #[.int .i32 0, .int .i32 0, .int .i32 0, .int .i32 0, .int .i32 0, .int .i32 0, .int .i32 0, .int .i32 0] 150)).one.1 p
  have d7 := fun p => LowW.cell (B := (w.alloc (.cells #[.int .i32 0, .int .i32 0, .int .i32 0, .int .i32 0, .int .i32 0, .int .i32 0, .int .i32 0, .int .i32 0] 150)).heap.size) (a := ⟨q7, 0, none⟩) (Nat.lt_trans g7.lt hle) (g7.alloc (.cells #[.int .i32 0, .int .i32 0, .int .i32 0, .int .i32 0, .int .i32 0, .int .i32 0, .int .i32 0, .int .i32 0] 150)).one.1 p
  have d5 := fun p => LowW.cell (B := (w.alloc (.cells #[.int .i32 0, .int .i32 0, .int .i32 0, .int .i32 0, .int .i32 0, .int .i32 0, .int .i32 0, .int .i32 0] 150)).heap.size) (a := ⟨q5, 0, none⟩) (Nat.lt_trans g5.lt hle) (g5.alloc (.cells #[.int .i32 0, .int .i32 0, .int .i32 0, .int .i32 0, .int .i32 0, .int .i32 0, .int .i32 0, .int .i32 0] 150)).one.1 p
  have d8 := fun p => LowW.cell (B := (w.alloc (.cells #[.int .i32 0, .int .i32 0, .int .i32 0, .int .i32 0, .int .i32 0, .int .i32 0, .int .i32 0, .int .i32 0] 150)).heap.size) (a := ⟨q8, 0, none⟩) (Nat.lt_trans g8.lt hle) (g8.alloc (.cells #[.int .i32 0, .int .i32 0, .int .i32 0, .int .i32 0, .int .i32 0, .int .i32 0, .int .i32 0, .int .i32 0] 150)).one.1 p
  have dc := fun p => LowW.cell (B := (w.alloc (.cells #[.int .i32 0, .int .i32 0, .int .i32 0, .int .i32 0, .int .i32 0, .int .i32 0, .int .i32 0, .int .i32 0] 150)).heap.size) (a := ad.add (os.length - l)) (by rw [block_of_add]; exact Nat.lt_trans hadl hle) ((World.cell?_alloc_lt w (.cells #[.int .i32 0, .int .i32 0, .int .i32 0, .int .i32 0, .int .i32 0, .int .i32 0, .int .i32 0, .int .i32 0] 150) _ (by rw [block_of_add]; exact hadl)).trans hcel) p
  have hXl := hX.lt
  have HT := Lib.hid hT
  have HXl := Lib.hid hXl
  have k2 : (0 : Int) ≤ (os.length : Int) - (l : Int) := by omega
  have k3 : (os.length : Int) - (l : Int) < (os.length : Int) := by omega
  have hw0 : IntKind.i64.wrap ((os.length : Int) - (l : Int)) = (os.length : Int) - (l : Int) := IntWalk.i64_in _ ⟨by omega, by omega⟩
  have hw2 : IntKind.i64.wrap ((os.length : Int) - ig os (os.length - l)) = (os.length : Int) - ig os (os.length - l) := IntWalk.i64_in _ ⟨by omega, by omega⟩
  generalize ig os (os.length - l) = ok at CC dc hcel hw2 hkb
  have HR8 := Lib.hid hR8
  obtain ⟨x1, x2, x3, x4, x5, x6, x7, x8, rfl⟩ := oct hR8.1
  clear hX hT g3 g7 g5 g8 gR hcel hx hR8 hXl hXn h
  go_enter Tryz.func104, Tryz.ntmps104
  go_wp2
  refine wp_region_low_tail (w.alloc (.cells #[.int .i32 0, .int .i32 0, .int .i32 0, .int .i32 0, .int .i32 0, .int .i32 0, .int .i32 0, .int .i32 0] 150)).heap.size (w.alloc (.cells #[.int .i32 0, .int .i32 0, .int .i32 0, .int .i32 0, .int .i32 0, .int .i32 0, .int .i32 0, .int .i32 0] 150)) 11 (by kernel_rfl) (by kernel_rfl) (Below.refl _ _) ?_
  simp only [List.take_succ_cons, List.take_zero, List.drop_succ_cons, List.drop_zero]
  repeat (quiet_step (fail))
  refine wpQuiet_nil ?_
  rintro w' ⟨p, rfl⟩
  have KP := Lib.hid (K1.out.below p.below hle)
  go_wp2_with (go_at_call 105; (with_reducible refine (CC.out p).mono ?_); rintro e w4 ⟨X4, he, hR4, hX4, hF4⟩; rw [rowV_eight] at he; subst he; have K4 := hF4.blk KP.out (fun h => by have := HXl.out _ h; omega); have z0 := K4.cell 0; have z1 := K4.cell 1; have z2 := K4.cell 2; have z3 := K4.cell 3; have z4 := K4.cell 4; have z5 := K4.cell 5; have z6 := K4.cell 6; have z7 := K4.cell 7; have y0 := K4.frozen 0; have y1 := K4.frozen 1; have y2 := K4.frozen 2; have y3 := K4.frozen 3; have y4 := K4.frozen 4; have y5 := K4.frozen 5; have y6 := K4.frozen 6; have y7 := K4.frozen 7; have KK := Lib.hid K4; have FF := Lib.hid hF4; have XX := Lib.hid hX4; clear K4 hF4 hX4 hR4)
  obtain ⟨KF, BF⟩ := KK.out.set8 (b0 := .int .i32 x1) (b1 := .int .i32 x2) (b2 := .int .i32 x3) (b3 := .int .i32 x4) (b4 := .int .i32 x5) (b5 := .int .i32 x6) (b6 := .int .i32 x7) (b7 := .int .i32 x8)
  obtain ⟨v0, v1, v2, v3, v4, v5, v6, v7⟩ := KF.eight8
  have FZ := set8_fr w4 w.heap.size (.int .i32 x1) (.int .i32 x2) (.int .i32 x3) (.int .i32 x4) (.int .i32 x5) (.int .i32 x6) (.int .i32 x7) (.int .i32 x8)
  have hps : w.heap.size < p.w.heap.size := Nat.lt_of_lt_of_le hle p.below.size
  have hN := FF.out.new
  have F1 : Fr X w X4 w4 := (Fr.of_below (G := X) (B1.out.trans (p.below.mono B1.out.size))).trans FF.out
  obtain ⟨T5, F5⟩ := HT.out _ X4 s' (XX.out.keep FZ (fun k hk e => by
    rcases hN k hk with h | h
    · have := HXl.out _ h; omega
    · omega)) (F1.new_block FZ (fun k e => by omega))
  exact bodyPost_ret (v := .agg #[.int .i32 x1, .int .i32 x2, .int .i32 x3, .int .i32 x4, .int .i32 x5, .int .i32 x6, .int .i32 x7, .int .i32 x8]) (by simp [results, Tryz.results104, go_sem, v0, v1, v2, v3, v4, v5, v6, v7]) rfl ⟨_, rfl, T5, F5⟩
theorem StR.els {sn fb kb q3 q7 q5 q8 : Nat} {os : List Int} (hs1 : 2 ≤ sn) (hs2 : sn ≤ 8) (ho : os.length ≤ 100) (hob : ∀ x ∈ os, 0 ≤ x ∧ x < 100) (b : WB) (hb : b.fb = fb) : Els sn (StR sn fb kb q3 q7 q5 q8 os) (elR sn os) b os.length 104 #[.pointer (some ⟨q3, 0, none⟩), .pointer (some ⟨q7, 0, none⟩), .pointer (some ⟨q5, 0, none⟩), .pointer (some ⟨q8, 0, none⟩)] where
  keep := fun h hF hd => h.keep hF hd
  lt := fun h => by
    obtain ⟨X, A, c, h1, h2, h3, h4, h5, h6, h7, g3, g7, g5, g8, gA, gl⟩ := h
    exact gl
  sts := fun h => by
    obtain ⟨X, A, c, ⟨H, hf, _⟩, _⟩ := h
    rw [hb]; exact ⟨hf.st2.1, hf.st2.2.1⟩
  call := fun w G s s' n l r h1 h2 hn hS he => reo1_any hs1 hs2 h1 h2 ho hob hn hS he
set_option maxRecDepth 100000 in
set_option maxHeartbeats 4000000 in
/-- the nodes of the tree that reads the positions in another order -/
theorem reordered_any {w : World} {fb sn : Nat} {G : Nat → Prop} {L : List Ndv} {n r : Int} {os : List Int} {A : Option Addr} {c : Nat} {S' : Wk (List Ndv × Mem)} (hf : Fo w fb G (sn : Int) L) (h1 : 1 ≤ os.length) (ho : os.length ≤ 100) (hob : ∀ x ∈ os, 0 ≤ x ∧ x < 100) (hA : Reads w w.heap.size A os.length (il os)) (hAG : ∀ ad, A = some ad → ¬ G ad.block) (hn : I32 n)
    (hv : visitF sn (elR sn os) os.length n ⟨(L, []), [], []⟩ = some (r, S')) :
    Calls Tryz.prog 56 #[.pointer (some ⟨fb, 0, none⟩), .int .i32 n, .slice A os.length c] w fun e w' =>
      ∃ A' c' G', e = .returned (.slice A' S'.out.length c') ∧ NL w' w.heap.size A' c' S'.out ∧ Fr (fun k => G k ∨ ∃ ad, A = some ad ∧ k = ad.block) w G' w' := by
  obtain ⟨_, _, s1, s2, _, _, hG, _⟩ := hf.st2
  have hlt := hA
  obtain ⟨w3, hw3⟩ : ∃ w3, w3 = ((w.alloc (.cells #[.pointer (some ⟨fb, 0, none⟩)] 105)).alloc (.cells #[.slice A os.length c] 36)).alloc (.cells #[.int .i64 (os.length : Int)] 3) := ⟨_, rfl⟩
  have z3 : w3.heap.size = w.heap.size + 1 + 1 + 1 := by rw [hw3]; simp
  have K1 := Blk.new w 105 #[.pointer (some ⟨fb, 0, none⟩)]
  have K2 := Blk.new (w.alloc (.cells #[.pointer (some ⟨fb, 0, none⟩)] 105)) 36 #[.slice A os.length c]
  have K3 := Blk.new ((w.alloc (.cells #[.pointer (some ⟨fb, 0, none⟩)] 105)).alloc (.cells #[.slice A os.length c] 36)) 3 #[.int .i64 (os.length : Int)]
  have K4 := MapOf.new Tryz.prog w3 21 (α := Int) (β := List Int) (fun x => .int .i32 x) rowV
  have K5 := Blk.new (w3.alloc (.map #[] 0)) 147 #[.map (some (w.heap.size + 1 + 1 + 1))]
  simp only [World.size_alloc] at K2 K3 K5
  rw [z3] at K4 K5
  have B5 : Below w.heap.size w ((w3.alloc (.map #[] 0)).alloc (.cells #[.map (some (w.heap.size + 1 + 1 + 1))] 147)) := by
    rw [hw3]
    exact (((((Below.refl _ _).alloc (Nat.le_refl _) _).alloc (by simp) _).alloc (by simp; omega) _).alloc (by simp; omega) _).alloc (by simp; omega) _
  have hS : StR sn fb (w.heap.size + 1 + 1 + 1) w.heap.size (w.heap.size + 1 + 1) (w.heap.size + 1) (w.heap.size + 1 + 1 + 1 + 1) os ((w3.alloc (.map #[] 0)).alloc (.cells #[.map (some (w.heap.size + 1 + 1 + 1))] 147))
      (fun k => (G k ∨ ∃ ad, A = some ad ∧ 0 < os.length ∧ k = ad.block) ∨ (w.heap.size ≤ k ∧ k ≤ w.heap.size + 1 + 1 + 1 + 1)) (L, []) := by
    refine ⟨fun k => G k ∨ k = w.heap.size + 1 + 1 + 1, A, c, ⟨G, hf.below B5, fun k hk => ⟨.inl hk, ?_⟩, ?_, .inr rfl, ?_, ?_⟩, ?_, ?_, ?_, ?_, K5, ?_, .inr (by omega), .inr (by omega), .inr (by omega), .inr (by omega), fun ad h0 e => .inl (.inr ⟨ad, e, h0, rfl⟩), ?_⟩
    · have := hG k hk; omega
    · exact K4.of_block (Below.heap_alloc _ _ _ (by rw [World.size_alloc, z3]; omega))
    · intro k hk
      simp only [World.size_alloc, z3]
      rcases hk with hk | hk
      · have := hG k hk; omega
      · omega
    · intro m R hm; simp at hm
    · intro k hk
      rcases hk with hk | hk
      · have := hG k hk
        exact ⟨.inl (.inl hk), by omega, by omega, by omega, by omega, fun ad h0 e e' => hAG ad e (e' ▸ hk)⟩
      · refine ⟨.inr (by omega), by omega, by omega, by omega, by omega, fun ad h0 e e' => ?_⟩
        obtain ⟨ad', ha, hb, _⟩ := hA.2 h0
        rw [e] at ha
        injection ha with ha
        subst ha
        omega
    · rw [hw3]; exact (((K1.alloc _).alloc _).alloc _).alloc _
    · rw [hw3]; exact (K3.alloc _).alloc _
    · rw [hw3]; exact ((K2.alloc _).alloc _).alloc _
    · exact (hA.below B5).more B5.size
    · intro k hk
      simp only [World.size_alloc, z3]
      rcases hk with (hk | ⟨ad, e, h0, e'⟩) | hk
      · have := hG k hk; omega
      · obtain ⟨ad', ha, hb, _⟩ := hA.2 h0
        rw [e] at ha
        injection ha with ha
        subst ha
        omega
      · omega
  have C := Lib.hid (walk_any (cb := #[.pointer (some ⟨w.heap.size, 0, none⟩), .pointer (some ⟨w.heap.size + 1 + 1, 0, none⟩), .pointer (some ⟨w.heap.size + 1, 0, none⟩), .pointer (some ⟨w.heap.size + 1 + 1 + 1 + 1, 0, none⟩)]) ho (by omega) (by omega) (fun xf xn xp xe xv mb bs => StR.els (by omega) (by omega) ho hob _ rfl) (enters_of Tryz.func104 (by kernel_rfl) rfl) (Nat.le_refl _) hn hv hS)
  have HB5 := Lib.hid B5
  rw [hw3] at C HB5
  clear hf hv hS hG K1 K2 K3 K4 K5 B5 z3 hw3 hA hAG hob hlt
  have hmm := @run_makeMap Tryz.prog
  go_enter Tryz.func56, Tryz.ntmps56
  go_wp2_with (go_at_call 103; (with_reducible refine (C.out).mono ?_); rintro e w2 ⟨A', c', G', rfl, hnr, _, hF⟩; have HN := Lib.hid hnr; have HF := Lib.hid hF; clear hnr hF)
  go_ret
  refine ⟨A', c', G', rfl, HN.out.low HB5.out.size, HF.out.os.trans HB5.out.os, HF.out.tape.trans HB5.out.tape, HF.out.output.trans HB5.out.output, Nat.le_trans HB5.out.size HF.out.size, fun k hk hG => ?_, fun k hk => ?_⟩
  · rw [HF.out.block k (Nat.lt_of_lt_of_le hk HB5.out.size) (fun h => by
      rcases h with (h | ⟨ad, e, h0, e'⟩) | h
      · exact hG (.inl h)
      · exact hG (.inr ⟨ad, e, e'⟩)
      · omega)]
    exact HB5.out.block k hk
  · rcases HF.out.new k hk with ((h | ⟨ad, e, h0, e'⟩) | h) | h
    · exact .inl (.inl h)
    · exact .inl (.inr ⟨ad, e, e'⟩)
    · exact .inr h.1
    · exact .inr (Nat.le_trans HB5.out.size h)
end Go.Proofs.YtjekpmkghpjamaaGreatDoor
