/- The walk of passOver at the examples. -/
import Derived.Test.YtkdcciajihoimaaRep
namespace Go.Proofs.Ytkdcciajihoimaa
open Go.RowKit

/-- two, three copies of a number in a block of their own -/
theorem rep_any (S : Nat) (hS : S = 2 ∨ S = 3) (k : Int) (gx : Nat) (w : World) (hx : gx < w.heap.size) (hc : w.cell? ⟨gx, 0, none⟩ = some (.int .i64 k)) :
    Calls Try.prog 30 #[.slice (some ⟨gx, 0, none⟩) 1 1, .int .i64 (S : Int)] w fun e w' => ∃ gz, w.heap.size ≤ gz ∧ e = .returned (.slice (some ⟨gz, 0, none⟩) S S) ∧ Reads w' w'.heap.size (some ⟨gz, 0, none⟩) S (il (List.replicate S k)) ∧ Below w.heap.size w w' := by
  have rd : ∀ (w' : World) (cs : Array Value), Blk w' w.heap.size 3 cs → cs.toList = il (List.replicate S k) → Reads w' w'.heap.size (some ⟨w.heap.size, 0, none⟩) S (il (List.replicate S k)) := fun w' cs hb hl => by
    refine ⟨by simp [il], fun _ => ⟨_, rfl, hb.lt, fun j u hj => ?_⟩⟩
    have : (⟨w.heap.size, 0, none⟩ : Addr).add j = ⟨w.heap.size, j, none⟩ := by
      unfold Addr.add
      split
      · next h => subst h; rfl
      · simp
    rw [this, hb.cell, ← hj, ← hl]
    simp
  rcases hS with rfl | rfl
  · exact (rep2 k gx w hx hc).mono fun e w' ⟨h1, h2, h3⟩ => ⟨_, Nat.le_refl _, h1, rd _ _ h2 rfl, h3⟩
  · exact (rep3 k gx w hx hc).mono fun e w' ⟨h1, h2, h3⟩ => ⟨_, Nat.le_refl _, h1, rd _ _ h2 rfl, h3⟩

/-- a growing list of nodes -/
def LR (w : World) (base : Nat) (A : Option Addr) (j c : Nat) (lv : Nat → Int) (nx : Nat → List Int) : Prop :=
  ∃ xs, w.ownsRow base 30 2 (.slice A j c) j xs ∧ Inn w (fun b => (Value.slice A j c).ownBlock = some b ∨ b < base) xs j lv nx
theorem LR.nil (w : World) (base : Nat) (lv : Nat → Int) (nx : Nat → List Int) : LR w base none 0 0 lv nx := ⟨[], World.ownsRow_nil _ _ _ _, fun k hk => absurd hk (by omega)⟩
section
variable {w w' : World} {base j c : Nat} {A : Option Addr} {lv : Nat → Int} {nx : Nat → List Int}
theorem LR.below (h : LR w base A j c lv nx) (hb : Below w.heap.size w w') : LR w' base A j c lv nx := by
  obtain ⟨xs, h1, h2⟩ := h
  exact ⟨xs, own_below2 h1 hb, h2.below hb⟩
theorem LR.push {o : Obj} {g' c' c2 : Nat} {xs : List Value} {B : Option Addr} {l : Int} {X : List Int} (hin : Inn w (fun b => (Value.slice A j c).ownBlock = some b ∨ b < base) xs j lv nx) (hl : xs.length = j * 2) (hown : w.ownsRow base 30 2 (.slice A j c) j xs)
    (hr : Reads w w.heap.size B X.length (il X)) (hB : 0 < X.length → ∀ ad, B = some ad → (Value.slice A j c).ownBlock ≠ some ad.block ∧ base ≤ ad.block) (e1 : lv j = l) (e2 : nx j = X)
    (hown' : w'.ownsRow base 30 2 (.slice (some ⟨g', 0, none⟩) (j + 1) c') (j + 1) (xs ++ [.int .i64 l, .slice B X.length c2]))
    (hg : (w.alloc o).grownBy w' (Value.slice A j c).ownBlock) (hat : (Value.slice A j c).ownBlock = some g' ∨ g' = w.heap.size + 1) : LR w' base (some ⟨g', 0, none⟩) (j + 1) c' lv nx := by
  subst e1 e2
  have hsz := hg.size
  simp only [World.size_alloc] at hsz
  refine ⟨_, hown', (hin.push hl hr (fun h0 ad e hG => by
    obtain ⟨h1, h2⟩ := hB h0 ad e
    rcases hG with hG | hG
    · exact h1 hG
    · omega)).far (by omega) ?_ ?_⟩
  · intro b hb hG
    rw [hg.block b (by simp; omega) (fun e => hG (.inl e.symm))]
    exact Below.heap_alloc _ _ _ hb
  · intro b hb hG
    rcases hG with hG | hG
    · have hgb : g' = b := by simpa [Value.ownBlock] using hG
      subst hgb
      rcases hat with e | e
      · exact .inl e
      · omega
    · exact .inr hG
theorem LR.lower {base' : Nat} (h : LR w base A j c lv nx) (hb : base' ≤ base) : LR w base' A j c lv nx := by
  obtain ⟨xs, h1, h2⟩ := h
  refine ⟨xs, own_base h1 hb, fun k hk => ?_⟩
  obtain ⟨A', c', a1, a2, a3, a4⟩ := h2 k hk
  exact ⟨A', c', a1, a2, a3, fun h0 ad e hG => a4 h0 ad e (hG.imp id (fun h => Nat.lt_of_lt_of_le h hb))⟩
theorem LR.far (h : LR w base A j c lv nx) {p : Addr} (hp : p.block < base) (u : Value) : LR (w.setCell p u) base A j c lv nx := by
  obtain ⟨xs, h1, h2⟩ := h
  refine ⟨xs, own_set h1 (fun e => by have := (h1.lt _ e).1; omega) u, h2.far (by simp [World.setCell]) ?_ (fun b _ hG => hG)⟩
  intro b hb hG
  exact Below.heap_setCell _ _ _ _ (fun e => hG (.inr (by omega)))
theorem LR.nr (h : LR w base A j c lv nx) : NR w w.heap.size A j lv nx := fun hj => by
  obtain ⟨xs, h1, h2⟩ := h
  obtain ⟨g, cap, hv, _, _⟩ := h1.form hj
  injection hv with hv1 hv2 hv3
  subst hv1 hv3
  exact NR.of_own h1 h2 hj
end

/-- nodes came back -/
def PassOut (base j : Nat) (r : Int) (lv : Nat → Int) (nx : Nat → List Int) (w : World) (e : Ending) (w' : World) : Prop := ∃ A' c', e = .returned (.tuple #[.slice A' j c', .int .i64 r]) ∧ LR w' base A' j c' lv nx ∧ Below base w w'
set_option maxRecDepth 100000 in
set_option maxHeartbeats 4000000 in
theorem pass_any (base S j0 cnt c0 : Nat) (A0 : Option Addr) (f0 last k : Int) (lv : Nat → Int) (nx : Nat → List Int) (w : World) (hS : S = 2 ∨ S = 3) (h : LR w base A0 j0 c0 lv nx) (hb : base ≤ w.heap.size) (hj : j0 ≤ 100) (hc : cnt ≤ 100) (hf : 0 ≤ f0) (hf2 : f0 ≤ 100) (hl : last + 1 = f0 + (cnt : Int))
    (hs : ∀ i, i < cnt → lv (j0 + i) = f0 + (i : Int) ∧ nx (j0 + i) = List.replicate S (if i = 0 then k else ((j0 + i : Nat) : Int) - 1)) :
    Calls Try.prog 23 #[.slice A0 j0 c0, .int .i64 (S : Int), .int .i64 f0, .int .i64 last, .int .i64 k] w fun e w' => PassOut base (j0 + cnt) (if cnt = 0 then k else ((j0 + cnt : Nat) : Int) - 1) lv nx w e w' := by
  obtain ⟨i0, ji, jz0, jz1, jz2⟩ := info_parts Try.info_node
  have H := Lib.hid h
  have HS := Lib.hid hs
  have RP := Lib.hid (fun k gx w hx hc => rep_any S hS k gx w hx hc)
  have hS8 : S ≤ 8 := by omega
  clear h hs hS
  obtain ⟨R, hR⟩ : ∃ R : Int, R = (if cnt = 0 then k else ((j0 + cnt : Nat) : Int) - 1) := ⟨_, rfl⟩
  rw [← hR]
  have HR := Lib.hid hR
  clear hR
  go_enter Try.func23, Try.ntmps23
  go_wp2
  go_loopw [0, 4, 12] (fun nv kv tv wr => ∃ (i : Nat) (A : Option Addr) (c : Nat) (k' : Int), i ≤ cnt ∧ nv = .slice A (j0 + i) c ∧ kv = .int .i64 k' ∧ tv = .int .i64 (f0 + (i : Int)) ∧ k' = (if i = 0 then k else ((j0 + i : Nat) : Int) - 1) ∧ LR wr base A (j0 + i) c lv nx ∧ Below base w wr) (fun _ _ tv _ => (f0 + (cnt : Int) - intOf tv).toNat)
  case atStart => exact ⟨0, A0, c0, k, Nat.zero_le _, rfl, rfl, by simp, rfl, H.out, Below.refl _ _⟩
  case round =>
    obtain ⟨i, A, c, k', hi, rfl, rfl, rfl, hk, hlr, hbel⟩ := hrel
    have HL := Lib.hid hlr
    have HB := Lib.hid hbel
    have hsz : base ≤ wr.heap.size := Nat.le_trans hb hbel.size
    clear hlr hbel
    by_cases hlt : i < cnt
    · have d1 : decide (f0 + (i : Int) ≤ last) = true := by rw [decide_eq_true_iff]; omega
      have hx := HS.out i hlt
      rw [← hk] at hx
      have HX := Lib.hid hx
      clear hx hk
      have HC := Lib.hid (show (wr.alloc (.cells #[.int .i64 k'] 3)).cell? ⟨wr.heap.size, 0, none⟩ = some (.int .i64 k') from (Blk.new wr 3 #[.int .i64 k']).cell 0)
      have HZ := Lib.hid (show wr.heap.size < (wr.alloc (.cells #[.int .i64 k'] 3)).heap.size by simp)
      have HA := Lib.hid ((Below.refl wr.heap.size wr).alloc (Nat.le_refl _) (.cells #[.int .i64 k'] 3))
      go_wp2_with (first
        | (go_at_call 30; (with_reducible refine (RP.out k' wr.heap.size _ HZ.out HC.out).mono ?_); rintro e w2 ⟨gz, hgz, rfl, hrd, hb2⟩; have B2 := Lib.hid (HA.out.trans (hb2.mono HA.out.size)); have hs2 : base ≤ w2.heap.size := (Nat.le_trans hsz B2.out.size); have hgz2 : wr.heap.size ≤ gz := (Nat.le_trans HA.out.size hgz); have RD := Lib.hid hrd; obtain ⟨xs, hox, hix⟩ := HL.out.below B2.out; have OX := Lib.hid hox; have IX := Lib.hid hix; clear hrd hb2 hox hix hgz)
        | (at_builtin; refine wpList_append2L rfl _ _ 23 rfl base 30 i0 (.agg #[.int .i64 0, .slice none 0 0]) 32 Try.underlying23 ji jz0 jz1 jz2 rfl A (j0 + i) c xs rfl OX.out (.int .i64 (f0 + (i : Int))) (.slice (some ⟨gz, 0, none⟩) S S) rfl rfl rfl (by unfold maxLen; omega) (by omega) hs2 ?_; intro g' c6 w6 hown6 hbel6 hgr6 hat6))
      go_roundw
      case rel =>
        have hln : (List.replicate S k').length = S := by simp
        refine ⟨i + 1, some ⟨g', 0, none⟩, c6, _, by omega, rfl, rfl, by go_num, ?_, ?_, (HB.out.trans (B2.out.mono hsz)).trans hbel6⟩
        · rw [if_neg (by omega)]; omega
        · refine LR.push (X := List.replicate S k') (B := some ⟨gz, 0, none⟩) (c2 := S) IX.out (by have := OX.out.1; omega) OX.out (by rw [hln]; exact RD.out) ?_ HX.out.1 HX.out.2 (by rw [hln]; exact hown6) hgr6 hat6
          intro _ ad e
          injection e with e
          subst e
          obtain ⟨xs', ho', _⟩ := HL.out
          refine ⟨fun hoo => ?_, by simp only; omega⟩
          have := (ho'.lt _ hoo).2
          simp only at this
          omega
      case measure => simp [intOf]; omega
    · obtain rfl : i = cnt := by omega
      have d1 : decide (f0 + (i : Int) ≤ last) = false := by rw [decide_eq_false_iff_not]; omega
      have HK := Lib.hid hk
      clear hk
      go_wp2
      go_ret2
      exact ⟨A, c, by rw [HR.out, ← HK.out]; rfl, HL.out, HB.out⟩
end Go.Proofs.Ytkdcciajihoimaa
