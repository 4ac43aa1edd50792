/- The walk of the reference's Constant. -/
/- A growing list of nodes beside a growing list of numbers. -/
import Derived.Test.YtcgkkppidkkjiaaGreatDoorMbg
import Derived.Deep.AppendLies
namespace Go.Proofs.YtcgkkppidkkjiaaGreatDoor
open Go.RowKit

/-- a growing list of nodes -/
def LR (w : World) (base : Nat) (A : Option Addr) (j c : Nat) (lv : Nat → Int) (nx : Nat → List Int) : Prop :=
  ∃ xs, w.ownsRow base 66 2 (.slice A j c) j xs ∧ Inn w (fun b => (Value.slice A j c).ownBlock = some b ∨ b < base) xs j lv nx
theorem LR.nil (w : World) (base : Nat) (lv : Nat → Int) (nx : Nat → List Int) : LR w base none 0 0 lv nx := ⟨[], World.ownsRow_nil _ _ _ _, fun k hk => absurd hk (by omega)⟩
section
variable {w w' : World} {base j c : Nat} {A : Option Addr} {lv : Nat → Int} {nx : Nat → List Int}
theorem LR.below (h : LR w base A j c lv nx) (hb : Below w.heap.size w w') : LR w' base A j c lv nx := by
  obtain ⟨xs, h1, h2⟩ := h
  exact ⟨xs, own_below2 h1 hb, h2.below hb⟩
theorem LR.push {o : Obj} {g' c' c2 : Nat} {xs : List Value} {B : Option Addr} {l : Int} {X : List Int} (hin : Inn w (fun b => (Value.slice A j c).ownBlock = some b ∨ b < base) xs j lv nx) (hl : xs.length = j * 2) (hown : w.ownsRow base 66 2 (.slice A j c) j xs)
    (hr : Reads w w.heap.size B X.length (il X)) (hB : 0 < X.length → ∀ ad, B = some ad → (Value.slice A j c).ownBlock ≠ some ad.block ∧ base ≤ ad.block) (e1 : lv j = l) (e2 : nx j = X)
    (hown' : w'.ownsRow base 66 2 (.slice (some ⟨g', 0, none⟩) (j + 1) c') (j + 1) (xs ++ [.int .i64 l, .slice B X.length c2]))
    (hg : (w.alloc o).grownBy w' (Value.slice A j c).ownBlock) (hat : (Value.slice A j c).ownBlock = some g' ∨ g' = w.heap.size + 1) : LR w' base (some ⟨g', 0, none⟩) (j + 1) c' lv nx := by
  subst e1 e2
  have hsz := hg.size
  simp only [World.size_alloc] at hsz
  refine ⟨_, hown', (hin.push hl hr (fun h0 ad e hG => by
    obtain ⟨h1, h2⟩ := hB h0 ad e
    rcases hG with hG | hG
    · exact h1 hG
    · omega)).far (by omega) ?_ ?_⟩
  · intro b hb hG
    rw [hg.block b (by simp; omega) (fun e => hG (.inl e.symm))]
    exact Below.heap_alloc _ _ _ hb
  · intro b hb hG
    rcases hG with hG | hG
    · have hgb : g' = b := by simpa [Value.ownBlock] using hG
      subst hgb
      rcases hat with e | e
      · exact .inl e
      · omega
    · exact .inr hG
theorem LR.lower {base' : Nat} (h : LR w base A j c lv nx) (hb : base' ≤ base) : LR w base' A j c lv nx := by
  obtain ⟨xs, h1, h2⟩ := h
  refine ⟨xs, own_base h1 hb, fun k hk => ?_⟩
  obtain ⟨A', c', a1, a2, a3, a4⟩ := h2 k hk
  exact ⟨A', c', a1, a2, a3, fun h0 ad e hG => a4 h0 ad e (hG.imp id (fun h => Nat.lt_of_lt_of_le h hb))⟩
theorem LR.far (h : LR w base A j c lv nx) {p : Addr} (hp : p.block < base) (u : Value) : LR (w.setCell p u) base A j c lv nx := by
  obtain ⟨xs, h1, h2⟩ := h
  refine ⟨xs, own_set h1 (fun e => by have := (h1.lt _ e).1; omega) u, h2.far (by simp [World.setCell]) ?_ (fun b _ hG => hG)⟩
  intro b hb hG
  exact Below.heap_setCell _ _ _ _ (fun e => hG (.inr (by omega)))
theorem LR.nr (h : LR w base A j c lv nx) : NR w w.heap.size A j lv nx := fun hj => by
  obtain ⟨xs, h1, h2⟩ := h
  obtain ⟨g, cap, hv, _, _⟩ := h1.form hj
  injection hv with hv1 hv2 hv3
  subst hv1 hv3
  exact NR.of_own h1 h2 hj
end

theorem own_ge {w : World} {base n c k : Nat} {e : TypeId} {ad : Addr} {xs : List Value} (h : w.ownsRow base e k (.slice (some ad) n c) n xs) (hn : 0 < n) : base ≤ ad.block := by
  obtain ⟨g, cap, hv, hg, _⟩ := h.form hn
  injection hv with hv
  injection hv with hv
  subst hv
  exact hg
/-- the reduced tree of a constant, in full -/
def TCn (S n : Nat) (f : Nat → P2) (s : Int) : Tr := ⟨(S : Int), n, f, n, fun k => (k : Int) + 1, fun k => List.replicate S (if k = 0 then s else (k : Int) - 1)⟩
set_option maxRecDepth 100000 in
set_option maxHeartbeats 8000000 in
theorem rconst_any (AH : Option Addr) (cH S n : Nat) (f : Nat → P2) (s : Int) (w : World) (h : QReads w w.heap.size AH n f) (hd : Hd f n) (hS2 : 2 ≤ S) (hS : S ≤ 8) (hs0 : 0 ≤ s) (hs1 : s < (S : Int)) :
    Calls Tryz.prog 14 #[.int .i64 (S : Int), .slice AH n cH, .int .i64 s] w fun e w' => ∃ AN cN, e = .returned (.tuple #[.agg #[.int .i64 (S : Int), .slice AH n cH, .slice AN n cN], .int .i64 0]) ∧ TS w' AH AN (TCn S n f s) ∧ Below w.heap.size w w' := by
  obtain ⟨i0, hi, hz0, hz1, hz2⟩ := info_parts Tryz.info_node
  have n1 := hd.1.1
  have n2 := hd.1.2
  have RI := Lib.hid (fun w' (hb : Below w.heap.size w w') => rright_yes AH n cH f w' (h.later hb) hd)
  have HQ := Lib.hid (fun w' (hb : Below w.heap.size w w') => h.later hb)
  have RA := Lib.hid (fun l x w' => rall_any l x S hS w')
  have hwz : ∃ z, z = w.heap.size := ⟨_, rfl⟩
  clear h hd
  have K0 := Lib.hid (Blk.new w 32 #[.int .i64 0, .slice none 0 0, .slice none 0 0])
  have B0 := Lib.hid ((Below.refl w.heap.size w).alloc (Nat.le_refl _) (.cells #[.int .i64 0, .slice none 0 0, .slice none 0 0] 32))
  have e1 : decide ((S : Int) < 2) = false := decide_eq_false (by omega)
  have e2 : decide ((8 : Int) < (S : Int)) = false := decide_eq_false (by omega)
  have e3 : decide (s < 0) = false := decide_eq_false (by omega)
  have e4 : decide ((S : Int) ≤ s) = false := decide_eq_false (by omega)
  go_enter Tryz.func14, Tryz.ntmps14
  go_wp2_with fail
  generalize w.alloc (.cells #[.int .i64 0, .slice none 0 0, .slice none 0 0] 32) = w0 at *
  go_wp2_with (go_at_call 30; (with_reducible refine (RI.out _ B0.out).mono ?_); rintro e w1 ⟨rfl, hb⟩; have B1 := Lib.hid (B0.out.trans (hb.mono B0.out.size)); have K1 := Lib.hid (K0.out.below hb K0.out.lt); clear hb)
  obtain ⟨gT, hgT⟩ : ∃ gT, gT = w1.heap.size := ⟨_, rfl⟩
  have KT := Lib.hid (Blk.new w1 32 #[.int .i64 (S : Int), .slice AH n cH, .slice none 0 0])
  have KR := Lib.hid (K1.out.alloc (.cells #[.int .i64 (S : Int), .slice AH n cH, .slice none 0 0] 32))
  have B2 := Lib.hid (B1.out.alloc B1.out.size (.cells #[.int .i64 (S : Int), .slice AH n cH, .slice none 0 0] 32))
  have s2 : (w1.alloc (.cells #[.int .i64 (S : Int), .slice AH n cH, .slice none 0 0] 32)).heap.size = gT + 1 := by rw [World.size_alloc, hgT]
  have hwT : w.heap.size < gT := by rw [hgT]; exact K1.out.lt
  generalize w1.alloc (.cells #[.int .i64 (S : Int), .slice AH n cH, .slice none 0 0] 32) = w2 at KT KR B2 s2 ⊢
  rw [← hgT] at KT ⊢
  clear hgT hwz B1 K1 B0 K0 RI e1 e2 e3 e4
  obtain ⟨lv, hlv⟩ : ∃ lv : Nat → Int, lv = fun k : Nat => (k : Int) + 1 := ⟨_, rfl⟩
  obtain ⟨nx, hnx⟩ : ∃ nx : Nat → List Int, nx = fun k : Nat => List.replicate S (if k = 0 then s else (k : Int) - 1) := ⟨_, rfl⟩
  have L0 := Lib.hid (LR.nil w2 (gT + 1) lv nx)
  go_loopw [9, 10] (fun kv vv wr => ∃ (j : Nat) (A : Option Addr) (c : Nat) (k : Int), j ≤ n ∧ vv = .int .i64 ((j : Int) + 1) ∧ kv = .int .i64 k ∧ Hid (k = if j = 0 then s else (j : Int) - 1) ∧ Hid (Blk wr gT 32 #[.int .i64 (S : Int), .slice AH n cH, .slice A j c]) ∧ Hid (Blk wr w.heap.size 32 #[.int .i64 0, .slice none 0 0, .slice none 0 0]) ∧ Hid (LR wr (gT + 1) A j c lv nx) ∧ Hid (Below w.heap.size w wr) ∧ gT + 1 ≤ wr.heap.size) (fun _ vv _ => n + 1 - (intOf vv).toNat)
  case atStart => exact ⟨0, none, 0, s, Nat.zero_le _, by simp, rfl, Lib.hid (by rw [if_pos rfl]), KT, KR, L0, B2, by omega⟩
  case round =>
    obtain ⟨j, A, c, k, hj, rfl, rfl, HK, HT, HR, HL, HB, hsz⟩ := hrel
    by_cases hlt : j < n
    · have d1 : decide ((j : Int) + 1 ≤ (n : Int)) = true := decide_eq_true (by omega)
      obtain ⟨t0, t1, t2, t3⟩ := HT.out.three
      have t2f := HT.out.frozen 2
      obtain ⟨xs, hown, hin⟩ := HL.out
      have hw1 : IntKind.i64.wrap ((j : Int) + 1 - 1) = (j : Int) := by rw [show (j : Int) + 1 - 1 = (j : Int) by omega]; exact IntWalk.i64_in _ (by omega)
      have hw2 : IntKind.i64.wrap ((j : Int) + 1 + 1) = (j : Int) + 1 + 1 := IntWalk.i64_in _ (by omega)
      go_wp2_with fail
      go_region_law (first
        | (refine step_append_lies _ (by rfl) _ _ _ (by rfl) (gT + 1) 66 i0 (.agg #[.int .i64 0, .slice none 0 0]) 2 32 Tryz.underlying30 hi hz0 hz1 hz2 rfl (by decide) (.slice A j c) j xs (by rfl) (ownA.alloc _) ⟨wa.heap.size, 0, none⟩ 1 1 [.int .i64 ((j : Int) + 1), .slice A' S c'] (by rfl) (by rfl) (World.news_of_block (cs := #[.int .i64 ((j : Int) + 1), .slice A' S c']) (t := 66) (fr := (0, 0)) (heap_alloc_new wa _)) (by simp [Value.oneCell']) (by omega) (by unfold maxLen; omega) (by omega) (by have := ha.size; simp; omega) (wa.heap.size + 1) (by simp) ?_; intro gg cap w3 hown3 hgrow hat hglt; have hke := (show Blk w3 gT _ _ from (hgrow.block gT (by have := ka.lt; simp; omega) (fun e => by have := (hown.lt gT e.symm).1; omega)).trans (ka.alloc _)); have q2 := hke.three.2.2.1; have q2f := hke.frozen 2)
        | (go_simp; go_at_call 31; (with_reducible refine (RA.out _ _ _).mono ?_); rintro e wa ⟨A', c', rfl, hoA, ha⟩; have ha := (show Below wr.heap.size wr wa from ⟨ha.os, ha.tape, ha.output, ha.size, ha.block⟩); have ownA := own_below2 hown ha; have ka := HT.out.below ha HT.out.lt; have d2 := ka.three.2.2.1; have d2f := ka.frozen 2; have dd2 := (ka.alloc (.cells #[.int .i64 ((j : Int) + 1), .slice A' S c'] 66)).three.2.2.1))
      all_goals
        go_wp2
        go_roundw
        case rel =>
          have hat' : (Value.slice A j c).ownBlock = some gg ∨ gg = wa.heap.size + 1 := hat
          have hrr := hgrow.block w.heap.size (by have := ha.size; have := HR.out.lt; simp; omega) (fun e => by have := (hown.lt _ e.symm).1; omega)
          have hR3 : Blk w3 w.heap.size 32 #[.int .i64 0, .slice none 0 0, .slice none 0 0] := hrr.trans ((HR.out.below ha HR.out.lt).alloc _)
          have eX : nx j = List.replicate S k := by rw [hnx, HK.out]
          have hln : (List.replicate S k).length = S := by simp
          have hLR : LR w3 (gT + 1) (some ⟨gg, 0, none⟩) (j + 1) cap lv nx := LR.push (X := List.replicate S k) (B := A') (c2 := c') (l := (j : Int) + 1) (hin.below ha) (by have := hown.1; omega) ownA (by rw [hln]; exact Reads.of_own hoA) (fun _ ad e => by
            subst e
            have hAd : wr.heap.size ≤ ad.block := own_ge hoA (by omega)
            exact ⟨fun hoo => by have := (hown.lt _ hoo).2; have := hAd; omega, by omega⟩) (by rw [hlv]) eX (by rw [hln]; exact hown3) hgrow hat'
          refine ⟨j + 1, some ⟨gg, 0, none⟩, cap, (j : Int), by omega, by go_num, rfl, Lib.hid (by rw [if_neg (by omega)]; omega), Lib.hid (hke.set_ 2 _), Lib.hid (hR3.far (by show w.heap.size ≠ gT; omega) _), Lib.hid (hLR.far (Nat.lt_succ_self gT) _), Lib.hid ?_, ?_⟩
          · exact ((HB.out.trans (ha.mono (by omega))).trans (Below.grown ((Below.refl w.heap.size wa).alloc (by have := ha.size; omega) _) hgrow (by have := ha.size; simp; omega) (fun k hk => by have := (hown.lt k hk).1; omega))).setCell (p := ⟨gT, 2, none⟩) (by show w.heap.size ≤ gT; omega) _
          · have := hgrow.size
            have := ha.size
            simp only [World.size_alloc] at *
            show gT + 1 ≤ (w3.setCell _ _).heap.size
            rw [World.size_setCell]
            omega
        case measure => simp [intOf]; omega
    · obtain rfl : j = n := by omega
      have d1 : decide ((j : Int) + 1 ≤ (j : Int)) = false := decide_eq_false (by omega)
      obtain ⟨t0, t1, t2, t3⟩ := HT.out.three
      obtain ⟨r0, r1, r2, r3, r4, r5, r6⟩ := HR.out.three6
      go_wp2
      have KZ : Blk (((wr.setCell ⟨w.heap.size, 0, none⟩ (.int .i64 (S : Int))).setCell ⟨w.heap.size, 1, none⟩ (.slice AH j cH)).setCell ⟨w.heap.size, 2, none⟩ (.slice A j c)) w.heap.size 32 #[.int .i64 (S : Int), .slice AH j cH, .slice A j c] := by simpa using ((HR.out.set_ 0 (.int .i64 (S : Int))).set_ 1 (.slice AH j cH)).set_ 2 (.slice A j c)
      obtain ⟨y0, y1, y2, y3⟩ := KZ.three
      have BZ := below_set3 HB.out (Nat.le_refl _) (.int .i64 (S : Int)) (.slice AH j cH) (.slice A j c)
      have LZ := ((HL.out.far (p := ⟨w.heap.size, 0, none⟩) (by show w.heap.size < gT + 1; omega) (.int .i64 (S : Int))).far (p := ⟨w.heap.size, 1, none⟩) (by show w.heap.size < gT + 1; omega) (.slice AH j cH)).far (p := ⟨w.heap.size, 2, none⟩) (by show w.heap.size < gT + 1; omega) (.slice A j c)
      rw [hlv, hnx] at LZ
      exact bodyPost_ret (v := .tuple #[.agg #[.int .i64 (S : Int), .slice AH j cH, .slice A j c], .int .i64 0]) (by simp [results, Tryz.results14, go_sem, y0, y1, y2]) rfl ⟨A, c, rfl, ⟨HQ.out _ BZ, LZ.nr⟩, BZ⟩
end Go.Proofs.YtcgkkppidkkjiaaGreatDoor
namespace Go.Proofs.YtcgkkppidkkjiaaGreatDoor
open Go.RowKit

/-- append of one value onto a row of the call's own, and where the new row lies -/
theorem wpList_append1L {P : Program} {w : World} {ops : Array Oper} {rest : List Oper} {o : Oper} {a : Act} {Q : Exit → Act → World → Prop} (hgd : o.guard = none) (s x : Operand) (t : TypeId)
    (ho : o.op = .call { callee := .builtin .append, args := #[s, x], argTypes := #[t, t] })
    (base : Nat) (e : TypeId) (i : TypeInfo) (z : Value) (bytes : Nat) (ht : P.underlying t = some (.slice e)) (hi : P.info? e = some i) (hz : i.zero = some z)
    (hsize : i.size = 1) (hby : i.bytes = bytes) (hzs : z.cells.size = 1)
    (A : Option Addr) (n c : Nat) (xs : List Value) (hs : a.eval s = .slice A n c) (hown : w.ownsRow base e 1 (.slice A n c) n xs) (u : Value)
    (hx : a.eval x = .slice (some ⟨w.heap.size, 0, none⟩) 1 1) (h1 : u.oneCell' = true) (h63 : n + 1 ≤ maxLen) (hbytes : (n + 1) * bytes ≤ 140737488355328) (hbase : base ≤ w.heap.size)
    (h : ∀ g' c' w', w'.ownsRow base e 1 (.slice (some ⟨g', 0, none⟩) (n + 1) c') (n + 1) (xs ++ [u]) → Below base w w' → (w.alloc (.cells #[u] e)).grownBy w' (Value.slice A n c).ownBlock → ((Value.slice A n c).ownBlock = some g' ∨ g' = w.heap.size + 1) → wpList P ops Q rest (a.put o.dst (.slice (some ⟨g', 0, none⟩) (n + 1) c')) w') :
    wpList P ops Q (o :: rest) a (w.alloc (.cells #[u] e)) := by
  refine wpList_append_lies _ hgd s x t ho base e i z 1 bytes ht hi hz hsize hby hzs (by decide) _ n xs hs (hown.alloc _) ⟨w.heap.size, 0, none⟩ 1 1 [u] hx rfl ?_ ?_ (by decide) h63 hbytes (by simp; omega) (w.heap.size + 1) (by simp) ?_
  · intro j y hj
    match j, hj with
    | 0, hj => simp at hj; subst hj; simp [Addr.add]
  · intro y hy; simp at hy; subst hy; exact h1
  · intro g' c' w' hown' hg hat _
    refine h g' c' w' hown' (Below.grown ((Below.refl base w).alloc hbase _) hg (by simp; omega) ?_) hg hat
    intro k hk
    exact (hown.lt k hk).1
/-- two rows of different types lie apart -/
theorem own_ne2 {w : World} {base base' k k' n n' : Nat} {e t : TypeId} {v v' : Value} {xs ys : List Value} (h : w.ownsRow base e k v n xs) (h' : w.ownsRow base' t k' v' n' ys) (hne : e ≠ t) {g : Nat} (hg : v.ownBlock = some g) : v'.ownBlock ≠ some g := by
  intro hg'
  rcases h.2 with ⟨rfl, _⟩ | ⟨g2, cap, cur, rfl, _, h2, _⟩
  · cases hg
  · rcases h'.2 with ⟨rfl, _⟩ | ⟨g3, cap3, cur3, rfl, _, h3, _⟩
    · cases hg'
    · injection hg with hg
      injection hg' with hg'
      simp only at hg hg'
      subst hg hg'
      rw [h3] at h2
      injection h2 with h2
      injection h2 with _ ht
      exact hne ht.symm
/-- what the call owns stays owned where its block stays -/
theorem own_keep {w w' : World} {base k n : Nat} {e : TypeId} {v : Value} {xs : List Value} (h : w.ownsRow base e k v n xs) (hb : ∀ g, g < w.heap.size → v.ownBlock = some g → w'.heap[g]? = w.heap[g]?) : w'.ownsRow base e k v n xs := by
  refine ⟨h.1, ?_⟩
  rcases h.2 with hn | ⟨g, cap, cur, rfl, hb', hg, rest⟩
  · exact .inl hn
  · refine .inr ⟨g, cap, cur, rfl, hb', ?_, rest⟩
    rw [hb g (Array.getElem?_eq_some_iff.1 hg).1 rfl]
    exact hg
/-- a growing list of nodes beside a growing list of numbers -/
def LQ (w : World) (base : Nat) (A : Option Addr) (j c : Nat) (B : Option Addr) (i d : Nat) (lv : Nat → Int) (nx : Nat → List Int) : Prop :=
  ∃ xs, w.ownsRow base 66 2 (.slice A j c) j xs ∧ Inn w (fun b => (Value.slice A j c).ownBlock = some b ∨ b < base ∨ (Value.slice B i d).ownBlock = some b) xs j lv nx
theorem LQ.nil (w : World) (base : Nat) (lv : Nat → Int) (nx : Nat → List Int) : LQ w base none 0 0 none 0 0 lv nx := ⟨[], World.ownsRow_nil _ _ _ _, fun k hk => absurd hk (by omega)⟩
section
variable {w w' : World} {base j c i d : Nat} {A B : Option Addr} {lv : Nat → Int} {nx : Nat → List Int}
theorem LQ.lr (h : LQ w base A j c B i d lv nx) : LR w base A j c lv nx := by
  obtain ⟨xs, h1, h2⟩ := h
  exact ⟨xs, h1, h2.far (Nat.le_refl _) (fun _ _ _ => rfl) (fun b _ hG => hG.imp id .inl)⟩
theorem LQ.far (h : LQ w base A j c B i d lv nx) {p : Addr} (hp : p.block < base) (u : Value) : LQ (w.setCell p u) base A j c B i d lv nx := by
  obtain ⟨xs, h1, h2⟩ := h
  refine ⟨xs, own_set h1 (fun e => by have := (h1.lt _ e).1; omega) u, h2.far (by simp [World.setCell]) ?_ (fun b _ hG => hG)⟩
  intro b hb hG
  exact Below.heap_setCell _ _ _ _ (fun e => hG (.inr (.inl (by omega))))
/-- a node more -/
theorem LQ.push {o : Obj} {g' c' c2 : Nat} {xs : List Value} {X : Option Addr} {l : Int} {L : List Int} (hin : Inn w (fun b => (Value.slice A j c).ownBlock = some b ∨ b < base ∨ (Value.slice B i d).ownBlock = some b) xs j lv nx) (hl : xs.length = j * 2)
    (hr : Reads w w.heap.size X L.length (il L)) (hX : 0 < L.length → ∀ ad, X = some ad → (Value.slice A j c).ownBlock ≠ some ad.block ∧ base ≤ ad.block ∧ (Value.slice B i d).ownBlock ≠ some ad.block) (e1 : lv j = l) (e2 : nx j = L)
    (hown' : w'.ownsRow base 66 2 (.slice (some ⟨g', 0, none⟩) (j + 1) c') (j + 1) (xs ++ [.int .i64 l, .slice X L.length c2]))
    (hg : (w.alloc o).grownBy w' (Value.slice A j c).ownBlock) (hat : (Value.slice A j c).ownBlock = some g' ∨ g' = w.heap.size + 1) : LQ w' base (some ⟨g', 0, none⟩) (j + 1) c' B i d lv nx := by
  subst e1 e2
  have hsz := hg.size
  simp only [World.size_alloc] at hsz
  refine ⟨_, hown', (hin.push hl hr (fun h0 ad e hG => by
    obtain ⟨h1, h2, h3⟩ := hX h0 ad e
    rcases hG with hG | hG | hG
    · exact h1 hG
    · omega
    · exact h3 hG)).far (by omega) ?_ ?_⟩
  · intro b hb hG
    rw [hg.block b (by simp; omega) (fun e => hG (.inl e.symm))]
    exact Below.heap_alloc _ _ _ hb
  · intro b hb hG
    rcases hG with hG | hG
    · have hgb : g' = b := by simpa [Value.ownBlock] using hG
      subst hgb
      rcases hat with e | e
      · exact .inl e
      · omega
    · exact .inr hG
/-- a number more -/
theorem LQ.num {o : Obj} {g' d' : Nat} {ys : List Value} (h : LQ w base A j c B i d lv nx) (hB : w.ownsRow base 3 1 (.slice B i d) i ys)
    (hg : (w.alloc o).grownBy w' (Value.slice B i d).ownBlock) (hat : (Value.slice B i d).ownBlock = some g' ∨ g' = w.heap.size + 1) : LQ w' base A j c (some ⟨g', 0, none⟩) (i + 1) d' lv nx := by
  obtain ⟨xs, h1, h2⟩ := h
  have hsz := hg.size
  simp only [World.size_alloc] at hsz
  refine ⟨xs, own_keep h1 (fun g hgl hgo => ?_), h2.far (by omega) ?_ ?_⟩
  · rw [hg.block g (by simp; omega) (fun e => own_ne2 h1 hB (by decide) hgo e.symm)]
    exact Below.heap_alloc _ _ _ hgl
  · intro b hb hG
    rw [hg.block b (by simp; omega) (fun e => hG (.inr (.inr e.symm)))]
    exact Below.heap_alloc _ _ _ hb
  · intro b hb hG
    rcases hG with hG | hG | hG
    · exact .inl hG
    · exact .inr (.inl hG)
    · have hgb : g' = b := by simpa [Value.ownBlock] using hG
      subst hgb
      rcases hat with e | e
      · exact .inr (.inr e)
      · omega
end
end Go.Proofs.YtcgkkppidkkjiaaGreatDoor
