/- The walk of Join at valid circuits with gates. -/
import Derived.Test.YtfoheeijdaknnaaCcat
import Derived.Test.YtfoheeijdaknnaaMov
import Derived.Test.YtfoheeijdaknnaaIIclone
import Derived.Deep.RegionHeldLaw
namespace Go.Proofs.Ytfoheeijdaknnaa
open Go.RowKit

theorem own_belowk {w w' : World} {base k : Nat} {e : TypeId} {v : Value} {n : Nat} {xs : List Value} (h : w.ownsRow base e k v n xs) (hb : Below w.heap.size w w') : w'.ownsRow base e k v n xs := by
  refine ⟨h.1, ?_⟩
  rcases h.2 with hn | ⟨g, cap, cur, rfl, hb', hg, rest⟩
  · exact .inl hn
  · refine .inr ⟨g, cap, cur, rfl, hb', ?_, rest⟩
    rw [hb.block g (Array.getElem?_eq_some_iff.1 hg).1]; exact hg
/-- a row and a block of different types lie apart -/
theorem own_blk_ne {w : World} {base k g gc n c : Nat} {e t : TypeId} {xs : List Value} {cs : Array Value} (h : w.ownsRow base e k (.slice (some ⟨g, 0, none⟩) n c) n xs) (hb : Blk w gc t cs) (hne : e ≠ t) : g ≠ gc := by
  rcases h.2 with ⟨h1, _⟩ | ⟨g', cap, cur, h1, _, hg, _⟩
  · cases h1
  · injection h1 with h1
    injection h1 with h1
    injection h1 with h1
    subst h1
    rintro rfl
    rw [show w.heap[g]? = _ from hb] at hg
    injection hg with hg
    injection hg with _ ht
    exact hne ht.symm
/-- two rows of different types lie apart -/
theorem own_own_ne {w : World} {base k g n c base' k' g' n' c' : Nat} {e t : TypeId} {xs ys : List Value} (h : w.ownsRow base e k (.slice (some ⟨g, 0, none⟩) n c) n xs) (h' : w.ownsRow base' t k' (.slice (some ⟨g', 0, none⟩) n' c') n' ys) (hne : e ≠ t) : g ≠ g' := by
  rcases h'.2 with ⟨h1, _⟩ | ⟨g2, cap, cur, h1, _, hg, _⟩
  · cases h1
  · injection h1 with h1
    injection h1 with h1
    injection h1 with h1
    subst h1
    rcases h.2 with ⟨h2, _⟩ | ⟨g3, cap3, cur3, h2, _, hg3, _⟩
    · cases h2
    · injection h2 with h2
      injection h2 with h2
      injection h2 with h2
      subst h2
      rintro rfl
      rw [hg] at hg3
      injection hg3 with hg3
      injection hg3 with _ ht
      exact hne ht.symm
/-- a row below B stays behind what turns nothing below B -/
theorem own_low {w w' : World} {base k g n c B : Nat} {e : TypeId} {xs : List Value} (h : w.ownsRow base e k (.slice (some ⟨g, 0, none⟩) n c) n xs) (hg : g < B) (hb : Below B w w') : w'.ownsRow base e k (.slice (some ⟨g, 0, none⟩) n c) n xs := by
  refine ⟨h.1, ?_⟩
  rcases h.2 with ⟨h1, _⟩ | ⟨g', cap, cur, h1, hb', hg', rest⟩
  · cases h1
  · injection h1 with h1' h2' h3'
    injection h1' with h1'
    injection h1' with h1'
    subst h1' h3'
    exact .inr ⟨g, c, cur, rfl, hb', by rw [hb.block g hg]; exact hg', rest⟩
theorem take_drop_set {l l' : List Int} {s : Nat} (h : s < l.length) (hl : l.length = l'.length) : (l'.take s ++ l.drop s).set s (ig l' s) = l'.take (s + 1) ++ l.drop (s + 1) := by
  have h' : s < l'.length := by omega
  rw [List.set_append_right _ _ (by simp; omega), List.length_take, Nat.min_eq_left (by omega), Nat.sub_self, List.drop_eq_getElem_cons h, List.set_cons_zero, List.take_succ_eq_append_getElem h', List.append_assoc]
  simp [ig, List.getD, List.getElem?_eq_getElem h']
theorem il_at0 {l : List Int} {k : Nat} (h : k < l.length) : (il l)[k]? = some (.int .i64 (ig l k)) := by
  simp [il, ig, List.getElem?_eq_getElem h]
theorem add0 (g k : Nat) : ((⟨g, 0, none⟩ : Addr).add k) = ⟨g, k, none⟩ := by
  unfold Addr.add
  split
  · next e => subst e; rfl
  · simp
theorem own_drew {w : World} {base k : Nat} {e : TypeId} {v : Value} {n : Nat} {xs : List Value} (h : w.ownsRow base e k v n xs) : w.drew.ownsRow base e k v n xs := h
theorem il_set (l : List Int) (k : Nat) (v : Int) : (il l).set k (.int .i64 v) = il (l.set k v) := by simp [il, List.map_set]
theorem own_far {w : World} {base k g n c : Nat} {e : TypeId} {xs : List Value} (h : w.ownsRow base e k (.slice (some ⟨g, 0, none⟩) n c) n xs) {p : Addr} (hp : g ≠ p.block) (u : Value) : (w.setCell p u).ownsRow base e k (.slice (some ⟨g, 0, none⟩) n c) n xs :=
  own_set h (by simp [Value.ownBlock]; exact hp) u
theorem own_far3 {w : World} {base k g n c gc : Nat} {e : TypeId} {xs : List Value} (h : w.ownsRow base e k (.slice (some ⟨g, 0, none⟩) n c) n xs) (hp : g ≠ gc) (x y z : Value) : (((w.setCell ⟨gc, 0, none⟩ x).setCell ⟨gc, 1, none⟩ y).setCell ⟨gc, 2, none⟩ z).ownsRow base e k (.slice (some ⟨g, 0, none⟩) n c) n xs :=
  own_far (own_far (own_far h (p := ⟨gc, 0, none⟩) hp x) (p := ⟨gc, 1, none⟩) hp y) (p := ⟨gc, 2, none⟩) hp z
theorem own_alloc {w : World} {base k : Nat} {e : TypeId} {v : Value} {n : Nat} {xs : List Value} (h : w.ownsRow base e k v n xs) (o : Obj) : (w.alloc o).ownsRow base e k v n xs := own_belowk h ((Below.refl _ _).alloc (Nat.le_refl _) _)
theorem Below.alloc' {w0 w : World} (h : Below w0.heap.size w0 w) (o : Obj) : Below w0.heap.size w0 (w.alloc o) := h.alloc h.size o
theorem Below.drew' {B : Nat} {w0 w : World} (h : Below B w0 w) : Below B w0 w.drew := h.drew
theorem Below.set1 {B g i : Nat} {w0 w : World} (h : Below B w0 w) (hg : B ≤ g) (u : Value) : Below B w0 (w.setCell ⟨g, i, none⟩ u) := h.setCell (p := ⟨g, i, none⟩) hg u
theorem Blk.new1 (w : World) (o : Obj) (t : TypeId) (cs : Array Value) : Blk ((w.alloc o).alloc (.cells cs t)) (w.heap.size + 1) t cs := by
  have h := Blk.new (w.alloc o) t cs
  rwa [World.size_alloc] at h
theorem Blk.below' {w w' : World} {g : Nat} {t : TypeId} {cs : Array Value} (h : Blk w g t cs) (hb : Below w.heap.size w w') : Blk w' g t cs := h.below hb h.lt
/-- the wires of the joined circuit for the first wires of the second one -/
def wl (o : List Int) (I : Int) (n j : Nat) : List Int := o ++ (List.range j).map fun (i : Nat) => I + (n : Int) + (i : Int)
theorem wl_len (o : List Int) (I : Int) (n j : Nat) : (wl o I n j).length = o.length + j := by simp [wl]
theorem wl_succ (o : List Int) (I : Int) (n j : Nat) : wl o I n (j + 1) = wl o I n j ++ [I + (n : Int) + (j : Int)] := by simp [wl, List.range_succ]
/-- the gates behind j rounds -/
def jg (C D : Cr) : Nat → Nat → C3
  | 0 => cat C.g C.n D.g
  | j + 1 => upg (jg C D j) (C.n + j) (mv (D.g j) (wl C.o C.ins C.n j))
theorem jg_at (C D : Cr) (j : Nat) : ∀ i, jg C D i (C.n + (i + j)) = D.g (i + j) := by
  intro i
  suffices h : ∀ i k, i ≤ k → jg C D i (C.n + k) = D.g k from h i (i + j) (Nat.le_add_right _ _)
  intro i
  induction i with
  | zero => intro k _; simp [jg, cat, show ¬ C.n + k < C.n by omega]
  | succ i ih => intro k hk; rw [jg, upg, if_neg (by omega)]; exact ih k (by omega)
/-- the joined circuit -/
def jn (C D : Cr) : Cr := ⟨C.ins, C.n + D.n, jg C D D.n, D.o.map fun k => ig (wl C.o C.ins C.n D.n) k.toNat⟩

set_option maxRecDepth 100000 in
set_option maxHeartbeats 4000000 in
theorem join_any (AG AO BG BO : Option Addr) (cG cO dG dO : Nat) (C D : Cr) (w : World) (h : CS w AG AO C) (h' : CS w BG BO D) (hr : rt C = true) (hr' : rt D = true) (hl : D.ins = (C.o.length : Int)) (hn : 0 < C.n) (hm : 0 < D.n) (hnm : C.n + D.n ≤ 20000) (hq : 0 < C.o.length) (hq' : 0 < D.o.length) :
    Calls Try.prog 10 #[.agg #[.int .i64 C.ins, .slice AG C.n cG, .slice AO C.o.length cO], .agg #[.int .i64 D.ins, .slice BG D.n dG, .slice BO D.o.length dO]] w fun e w' => ∃ XG XO eG eO, e = .returned (.tuple #[.agg #[.int .i64 C.ins, .slice XG (C.n + D.n) eG, .slice XO D.o.length eO], .int .i64 0]) ∧ CS w' XG XO (jn C D) ∧ Below w.heap.size w w' := by
  obtain ⟨i0, hi0, hz0, hz1, hz2⟩ := info_parts Try.info_intE
  have q1 := (rt_iff C).1 hr
  have q2 := (rt_iff D).1 hr'
  have R1 := Lib.hid (fun w' (hb : Below w.heap.size w w') => right_any AG AO cG cO C w' (h.later hb) (by omega) (by omega))
  have R2 := Lib.hid (fun w' (hb : Below w.heap.size w w') => right_any BG BO dG dO D w' (h'.later hb) (by omega) (by omega))
  rw [hr] at R1
  rw [hr'] at R2
  have H1 := Lib.hid h
  have H2 := Lib.hid h'
  have HJ := Lib.hid (show (jn C D).g = jg C D D.n ∧ (jn C D).n = C.n + D.n ∧ (jn C D).o = D.o.map fun k => ig (wl C.o C.ins C.n D.n) k.toNat from ⟨rfl, rfl, rfl⟩)
  have JA := Lib.hid (fun i j => jg_at C D j i)
  have CP := Lib.hid (fun gL w' (hb : Below w.heap.size w w') (hk : Blk w' gL 22 #[.slice AG C.n cG, .slice BG D.n dG]) => concat_any gL AG BG C.n D.n cG dG C.g D.g w' (h.later hb).1 (h'.later hb).1 hk hn hm (by omega))
  have CL := Lib.hid (fun w' (hb : Below w.heap.size w w') => iclone_any BO D.o.length dO D.o w' (h'.later hb).2 (by omega))
  have CL1 := Lib.hid (fun w' (hb : Below w.heap.size w w') => iclone_any AO C.o.length cO C.o w' (h.later hb).2 (by omega))
  have QC := Lib.hid q1
  have QD := Lib.hid q2
  obtain ⟨⟨y0, y1, y2, y3⟩, -, -⟩ := q1
  obtain ⟨⟨z0, z1, z2, z3⟩, -, -⟩ := q2
  clear h h' hr hr'
  obtain ⟨wb, hwb⟩ : ∃ wb, wb = ((w.alloc (.cells #[.int .i64 C.ins, .slice AG C.n cG, .slice AO C.o.length cO] 25)).alloc (.cells #[.int .i64 D.ins, .slice BG D.n dG, .slice BO D.o.length dO] 25)).alloc (.cells #[.int .i64 0, .slice none 0 0, .slice none 0 0] 25) := ⟨_, rfl⟩
  obtain ⟨K1, K2, K3, B3⟩ := three_blks w #[.int .i64 C.ins, .slice AG C.n cG, .slice AO C.o.length cO] #[.int .i64 D.ins, .slice BG D.n dG, .slice BO D.o.length dO] #[.int .i64 0, .slice none 0 0, .slice none 0 0] 25 25 25
  rw [← hwb] at K1 K2 K3 B3
  have HC := Lib.hid (show C = C from rfl)
  obtain ⟨n, hnn⟩ : ∃ n, n = C.n := ⟨_, rfl⟩
  obtain ⟨m, hmm⟩ : ∃ m, m = D.n := ⟨_, rfl⟩
  obtain ⟨p, hpp⟩ : ∃ p, p = C.o.length := ⟨_, rfl⟩
  obtain ⟨q, hqq⟩ : ∃ q, q = D.o.length := ⟨_, rfl⟩
  obtain ⟨I, hI⟩ : ∃ I, I = C.ins := ⟨_, rfl⟩
  obtain ⟨J, hJ⟩ : ∃ J, J = D.ins := ⟨_, rfl⟩
  rw [← hnn, ← hmm] at hnm CP
  rw [← hnn] at hn R1 K1 y2 hwb JA
  rw [← hmm] at hm R2 K2 z2 hwb
  rw [← hpp] at hl hq R1 K1 y3 hwb CL1
  rw [← hqq] at hq' R2 K2 z3 hwb CL
  rw [← hI] at R1 K1 y0 y1 hwb
  rw [← hJ] at hl R2 K2 z0 z1 hwb
  rw [← hnn, ← hmm, ← hI, ← hqq, ← hpp, ← hJ]
  have EQ := Lib.hid (And.intro hnn (And.intro hmm (And.intro hpp (And.intro hqq (And.intro hI hJ)))))
  clear hnn hmm hpp hqq hI hJ
  subst hl
  have g1 : ((p : Int) != (p : Int)) = false := by rw [bne_eq_false_iff_eq]
  have g2 : ¬ ((20000 : Int) < (n : Int) + (m : Int)) := by omega
  have K1 := Lib.hid K1
  have K2 := Lib.hid K2
  have K3 := Lib.hid K3
  have B3 := Lib.hid B3
  obtain ⟨a0, a1, a2, _, _, _, a6⟩ := K1.out.three6
  obtain ⟨b0, b1, b2, _, _, _, b6⟩ := K2.out.three6
  go_enter Try.func10, Try.ntmps10
  go_upto_region 1 with (fail)
  rw [← hwb]
  clear hwb
  go_upto_region 5 with (first
    | (go_at_call 13; (with_reducible refine (R2.out _ B4.out).mono ?_); rintro e w5 ⟨rfl, hb⟩; have B5 := Lib.hid (B4.out.trans (hb.mono B4.out.size)); have L1 := Lib.hid (M1.out.below hb M1.out.lt); have L2 := Lib.hid (M2.out.below hb M2.out.lt); have L3 := Lib.hid (M3.out.below hb M3.out.lt); clear c0 c1 c2 c6 d0 d1 d2 d6; obtain ⟨e0, e1, e2, _, _, _, e6⟩ := L1.out.three6; obtain ⟨f0, f1, f2, _, _, _, f6⟩ := L2.out.three6; clear hb)
    | (go_at_call 13; (with_reducible refine (R1.out _ B3.out).mono ?_); rintro e w4 ⟨rfl, hb⟩; have B4 := Lib.hid (B3.out.trans (hb.mono B3.out.size)); have M1 := Lib.hid (K1.out.below hb K1.out.lt); have M2 := Lib.hid (K2.out.below hb K2.out.lt); have M3 := Lib.hid (K3.out.below hb K3.out.lt); clear a0 a1 a2 a6 b0 b1 b2 b6; obtain ⟨c0, c1, c2, _, _, _, c6⟩ := M1.out.three6; obtain ⟨d0, d1, d2, _, _, _, d6⟩ := M2.out.three6; clear hb))
  have S5 : w5.cell? ⟨w.heap.size, 0, none⟩ = some (.int .i64 I) ∧ w5.cell? ⟨w.heap.size, 1, none⟩ = some (.slice AG n cG) ∧ w5.cell? ⟨w.heap.size + 1, 1, none⟩ = some (.slice BG m dG) ∧ w5.cell? ⟨w.heap.size + 1, 2, none⟩ = some (.slice BO q dO) := ⟨e0, e1, f1, f2⟩
  have KP := Lib.hid (fun W (hb : Below w5.heap.size w5 W) => show W.cell? ⟨w.heap.size, 0, none⟩ = some (.int .i64 I) ∧ W.cell? ⟨w.heap.size, 1, none⟩ = some (.slice AG n cG) ∧ W.cell? ⟨w.heap.size + 1, 1, none⟩ = some (.slice BG m dG) ∧ W.cell? ⟨w.heap.size + 1, 2, none⟩ = some (.slice BO q dO) from ⟨(L1.out.below hb L1.out.lt).three6.1, (L1.out.below hb L1.out.lt).three6.2.1, (L2.out.below hb L2.out.lt).three6.2.1, (L2.out.below hb L2.out.lt).three6.2.2.1⟩)
  have P2 := Lib.hid (show ∀ gL W, Below w5.heap.size w5 W → Blk W gL 22 #[.slice AG n cG, .slice BG m dG] → Calls Try.prog 18 #[.slice (some ⟨gL, 0, none⟩) 2 2] W fun e W' => ∃ g' c', e = .returned (.slice (some ⟨g', 0, none⟩) (n + m) c') ∧ W'.ownsRow w5.heap.size 43 3 (.slice (some ⟨g', 0, none⟩) (n + m) c') (n + m) (cells3 (cat C.g n D.g) (n + m)) ∧ Below w5.heap.size w5 W' ∧ Below W.heap.size W W' from
    fun gL W hb hk => (CP.out gL W (B5.out.trans (hb.mono B5.out.size)) hk).mono fun e W' ⟨g', c', he, ho, h⟩ => ⟨g', c', he, own_base ho hb.size, hb.trans (h.mono hb.size), h⟩)
  have P3 := Lib.hid (show ∀ W, Below w5.heap.size w5 W → Calls Try.prog 19 #[.slice BO q dO] W fun e W' => ∃ gA cA, e = .returned (.slice (some ⟨gA, 0, none⟩) q cA) ∧ W'.ownsRow w5.heap.size 3 1 (.slice (some ⟨gA, 0, none⟩) q cA) q (il D.o) ∧ Below w5.heap.size w5 W' ∧ Below W.heap.size W W' from
    fun W hb => (CL.out W (B5.out.trans (hb.mono B5.out.size))).mono fun e W' ⟨A', c', he, ho, h⟩ => by
      obtain ⟨g, cap, hv, _, _⟩ := ho.form hq'
      rw [hv] at he ho
      exact ⟨g, cap, he, own_base ho hb.size, hb.trans (h.mono hb.size), h⟩)
  have NE1 : 43 ≠ 25 := by decide
  have NE2 : 3 ≠ 25 := by decide
  have XS := Lib.hid (show cells3 (cat C.g n D.g) (n + m) = cells3 (jg C D 0) (n + m) by rw [jg, ← EQ.out.1])
  generalize cells3 (cat C.g n D.g) (n + m) = xs at P2 XS
  clear CP CL K1 K2 M1 M2 R1 R2
  go_cut [6] from 39 to 50 (fun s6 wx => ∃ gc g' c' gA cA, s6 = .pointer (some ⟨gc, 0, none⟩) ∧ Blk wx gc 25 #[.int .i64 I, .slice (some ⟨g', 0, none⟩) (n + m) c', .slice (some ⟨gA, 0, none⟩) q cA] ∧ wx.ownsRow w5.heap.size 43 3 (.slice (some ⟨g', 0, none⟩) (n + m) c') (n + m) xs ∧ wx.ownsRow w5.heap.size 3 1 (.slice (some ⟨gA, 0, none⟩) q cA) q (il D.o) ∧ w5.heap.size ≤ gc ∧ Below w5.heap.size w5 wx)
  case first =>
    go_region_held_law (fun w' => w'.cell? ⟨w.heap.size, 0, none⟩ = some (.int .i64 I) ∧ w'.cell? ⟨w.heap.size, 1, none⟩ = some (.slice AG n cG) ∧ w'.cell? ⟨w.heap.size + 1, 1, none⟩ = some (.slice BG m dG) ∧ w'.cell? ⟨w.heap.size + 1, 2, none⟩ = some (.slice BO q dO))
      (first | assumption | (refine KP.out _ ?_; (with_reducible (repeat (first | assumption | exact Below.refl _ _ | refine Below.drew' ?_ | refine Below.alloc' ?_ _ | refine Below.set1 ?_ ?_ _ | exact Nat.le_refl _ | omega))); done) | go_keep)
      (first
      | (go_at_call 18; (with_reducible refine (P2.out _ _ ?_ ?_).mono ?_); (with_reducible (repeat (first | assumption | exact Below.refl _ _ | refine Below.drew' ?_ | refine Below.alloc' ?_ _))); (first | exact Blk.new _ _ _ | exact Blk.drew (Blk.new1 _ _ _ _) | exact Blk.drew (Blk.new _ _ _) | exact Blk.alloc (Blk.new _ _ _) _ | exact Blk.drew (Blk.alloc (Blk.new _ _ _) _)); rintro e wa ⟨g', c', rfl, ho, ha1, ha2⟩; have sa := ha1.size; (try (have hk := Blk.below' (by first | exact Blk.drew (Blk.new1 _ _ 25 #[.int .i64 0, .slice none 0 0, .slice none 0 0]) | exact Blk.new _ 25 #[.int .i64 0, .slice none 0 0, .slice none 0 0] | exact Blk.drew (Blk.new _ 25 #[.int .i64 0, .slice none 0 0, .slice none 0 0]) | exact Blk.alloc (Blk.new _ 25 #[.int .i64 0, .slice none 0 0, .slice none 0 0]) _ | exact Blk.drew (Blk.alloc (Blk.new _ 25 #[.int .i64 0, .slice none 0 0, .slice none 0 0]) _)) ha2)))
      | (go_at_call 19; (with_reducible refine (P3.out _ ?_).mono ?_); (with_reducible (repeat (first | assumption | exact Below.refl _ _ | refine Below.drew' ?_ | refine Below.alloc' ?_ _))); rintro e wc ⟨gA, cA, rfl, ho3, hc1, hc2⟩; have sc := hc1.size; have ho2 : wc.ownsRow w5.heap.size 43 3 (.slice (some ⟨g', 0, none⟩) (n + m) c') (n + m) xs := (by first | exact own_belowk ho hc2 | exact own_belowk (own_alloc ho _) hc2); (try (have hk := Blk.below' (by first | exact hk | exact Blk.alloc hk _ | exact Blk.drew (Blk.new1 _ _ 25 #[.int .i64 0, .slice none 0 0, .slice none 0 0]) | exact Blk.new _ 25 #[.int .i64 0, .slice none 0 0, .slice none 0 0] | exact Blk.drew (Blk.new _ 25 #[.int .i64 0, .slice none 0 0, .slice none 0 0]) | exact Blk.alloc (Blk.new _ 25 #[.int .i64 0, .slice none 0 0, .slice none 0 0]) _ | exact Blk.drew (Blk.alloc (Blk.new _ 25 #[.int .i64 0, .slice none 0 0, .slice none 0 0]) _)) hc2; obtain ⟨k0, k1, k2, k3, k4, k5, k6⟩ := hk.three6; (try simp at k0 k1 k2 k3 k4 k5 k6)))))
    all_goals
      go_wp2_with fail
      go_meet
      first
        | exact ⟨_, g', c', gA, cA, rfl, Blk.new wc _ _, own_alloc ho2 _, own_alloc ho3 _, sc, hc1.alloc hc1.size _⟩
        | exact ⟨_, g', c', gA, cA, rfl, hk.all3 _ _ _, own_far3 ho2 (own_blk_ne ho2 hk NE1) _ _ _, own_far3 ho3 (own_blk_ne ho3 hk NE2) _ _ _, (by first | exact Nat.le_refl _ | omega), Below.set1 (Below.set1 (Below.set1 hc1 (by first | exact Nat.le_refl _ | omega) _) (by first | exact Nat.le_refl _ | omega) _) (by first | exact Nat.le_refl _ | omega) _⟩
  case rest =>
    obtain ⟨gc, g', c', gA, cA, rfl, hX, hO, hI, hgc, hB⟩ := hcut
    have BC := Lib.hid (B5.out.trans (hB.mono B5.out.size))
    have N1 := Lib.hid (L1.out.below hB L1.out.lt)
    have N2 := Lib.hid (L2.out.below hB L2.out.lt)
    have N3 := Lib.hid (L3.out.below hB L3.out.lt)
    have KC := Lib.hid hX
    have GO := Lib.hid hO
    have IO := Lib.hid hI
    have hgl := hX.lt
    have hg5 := (hO.lt g' rfl)
    have hA5 := (hI.lt gA rfl)
    have s5 := B5.out.size
    have s6 := hB.size
    have h53 : w.heap.size + 1 + 1 < w5.heap.size := L3.out.lt
    clear e0 e1 e2 e6 f0 f1 f2 f6 S5 KP P2 P3 L1 L2 L3 B4 B5 hX hO hI hB M3 K3 B3
    obtain ⟨a0, a1, a2, _, _, _, a6⟩ := N1.out.three6
    go_upto_region 8 with (go_at_call 19; (with_reducible refine (CL1.out _ BC.out).mono ?_); rintro e w7 ⟨A7, c7, rfl, ho7, hb7⟩; have O7 := Lib.hid ho7; have B7 := Lib.hid hb7; have U1 := Lib.hid (N1.out.below hb7 N1.out.lt); obtain ⟨b0, b1, b2, _, _, _, b6⟩ := U1.out.three6; clear ho7 hb7)
    obtain ⟨g7, cap7, hv7, hg7, hs7⟩ := O7.out.form hq
    injection hv7 with hv7 _ hv8
    subst hv7 hv8
    have G7 := Lib.hid (own_belowk GO.out B7.out)
    have I7 := Lib.hid (own_belowk IO.out B7.out)
    have C7 := Lib.hid (KC.out.below B7.out KC.out.lt)
    obtain ⟨N, hN⟩ : ∃ N, N = n + m := ⟨_, rfl⟩
    rw [XS.out] at G7
    rw [← hN] at G7 C7
    have HN := Lib.hid hN
    have hNle : N ≤ 20000 := by omega
    have O8 := Lib.hid (show w7.ownsRow wc.heap.size 3 1 (.slice (some ⟨g7, 0, none⟩) p c7) p (il (wl C.o I n 0)) by rw [wl]; simpa using O7.out)
    have B8 := Lib.hid ((B7.out.mono (show w5.heap.size ≤ wc.heap.size from s6)))
    have S8 := B7.out.size
    have NE3 : 43 ≠ 3 := by decide
    have hg6 := hg5.2
    have hg5 := hg5.1
    have hA6 := hA5.2
    have hA5 := hA5.1
    clear hN a0 a1 a2 a6 b0 b1 b2 b6 O7 B7 GO IO KC hg7 hs7
    go_loopw [7, 8] (fun lv iv wr => ∃ (j t P gW : Nat) (c : Nat), j ≤ m ∧ Hid (t = n + j) ∧ Hid (P = p + j) ∧ lv = .slice (some ⟨gW, 0, none⟩) P c ∧ iv = .int .i64 (t : Int) ∧ Hid (Blk wr gc 25 #[.int .i64 I, .slice (some ⟨g', 0, none⟩) N c', .slice (some ⟨gA, 0, none⟩) q cA]) ∧ Hid (wr.ownsRow wc.heap.size 3 1 (.slice (some ⟨gW, 0, none⟩) P c) P (il (wl C.o I n j))) ∧ Hid (wr.ownsRow w5.heap.size 43 3 (.slice (some ⟨g', 0, none⟩) N c') N (cells3 (jg C D j) N)) ∧ Hid (wr.ownsRow w5.heap.size 3 1 (.slice (some ⟨gA, 0, none⟩) q cA) q (il D.o)) ∧ Hid (Below w5.heap.size w7 wr) ∧ Hid (wc.heap.size ≤ wr.heap.size)) (fun _ iv _ => N - (intOf iv).toNat)
    case atStart => exact ⟨0, n, p, _, _, Nat.zero_le _, Lib.hid rfl, Lib.hid rfl, rfl, rfl, C7, O8, G7, I7, Lib.hid (Below.refl _ _), Lib.hid S8⟩
    case round =>
      obtain ⟨j, t, P, gW, c, hj, HT, HP, rfl, rfl, KJ, OJ, GJ, IJ, BJ, SJ⟩ := hrel
      have htn := HT.out
      have hPn := HP.out
      have hNn := HN.out
      obtain ⟨a0, a1, a2, a3, a4, a5, a6⟩ := KJ.out.three6
      by_cases hjm : j < m
      · have htN : t < N := by omega
        have htI : (t : Int) < (N : Int) := by omega
        have hPp : P ≤ 30000 := by omega
        have ht2 : t ≤ 20000 := by omega
        have hl3 := cells3_len (jg C D j) N
        obtain ⟨x0, x1, x2⟩ := cells3_at (jg C D j) N t htN
        have ejg : jg C D j t = D.g j := by have := JA.out j 0; simpa [htn] using this
        rw [ejg] at x0 x1 x2
        have c0 := (GJ.out.cellAt (t * 3) (by omega)).trans x0
        have c1 := (GJ.out.cellAt (t * 3 + 1) (by omega)).trans x1
        have c2 := (GJ.out.cellAt (t * 3 + 2) (by omega)).trans x2
        have MV := Lib.hid (fun w' (hr : Reads w' w'.heap.size (some ⟨gW, 0, none⟩) P (il (wl C.o I n j))) => moved_any (some ⟨gW, 0, none⟩) P c (wl C.o I n j) (D.g j) ((p : Int) + (j : Int)) w' hr (by have := QD.out.2.1 j (by rw [← EQ.out.2.1]; exact hjm); rwa [show D.ins = (p : Int) from by have := EQ.out.2.2.2.2.2; exact this.symm] at this) (by omega))
        have JS := Lib.hid (show cells3 (jg C D (j + 1)) N = (((cells3 (jg C D j) N).set (t * 3) (.int .i64 (mv (D.g j) (wl C.o I n j)).1)).set (t * 3 + 1) (.int .i64 (mv (D.g j) (wl C.o I n j)).2.1)).set (t * 3 + 2) (.int .i64 (mv (D.g j) (wl C.o I n j)).2.2) by
          rw [cells3_upg _ _ _ _ htN, jg, ← EQ.out.1, ← htn, ← EQ.out.2.2.2.2.1])
        have JW := Lib.hid (show il (wl C.o I n (j + 1)) = il (wl C.o I n j) ++ [.int .i64 (I + (t : Int))] by rw [wl_succ, il_add, htn, Int.natCast_add, Int.add_assoc])
        obtain ⟨m0, hm0⟩ : ∃ x, x = mv (D.g j) (wl C.o I n j) := ⟨_, rfl⟩
        rw [← hm0] at MV JS
        clear hm0
        obtain ⟨v0, v1, v2⟩ := m0
        obtain ⟨⟨u0, u1', u2⟩, hu⟩ : ∃ x, x = D.g j := ⟨_, rfl⟩
        rw [← hu] at c0 c1 c2 MV
        clear hu x0 x1 x2 ejg
        simp only at c0 c1 c2
        clear htn hPn hNn
        go_upto_region 10 with (fail)
        have MC := Lib.hid (MV.out wr.drew (Reads.of_own OJ.out))
        go_region_with (go_at_call 20; (with_reducible refine MC.out.mono ?_); rintro e w9 ⟨rfl, hb9⟩; have B9 := Lib.hid (show Below wr.heap.size wr w9 from ⟨hb9.os, hb9.tape, hb9.output, hb9.size, hb9.block⟩); have K9 := Lib.hid (KJ.out.below B9.out KJ.out.lt); obtain ⟨d0, d1, d2, d3, d4, d5, d6⟩ := K9.out.three6; have G9 := Lib.hid (own_belowk GJ.out B9.out); have h0 := G9.out.frozenAt (t * 3); have h1 := G9.out.frozenAt (t * 3 + 1); have h2 := G9.out.frozenAt (t * 3 + 2); have r0 := (B9.out.cell (p := ⟨g', t * 3, none⟩) (by have := GJ.out.lt g' rfl; exact this.2)).trans c0; have r1 := (B9.out.cell (p := ⟨g', t * 3 + 1, none⟩) (by have := GJ.out.lt g' rfl; exact this.2)).trans c1; have r2 := (B9.out.cell (p := ⟨g', t * 3 + 2, none⟩) (by have := GJ.out.lt g' rfl; exact this.2)).trans c2)
        all_goals
          have GS := (((G9.out.stored (t * 3) (.int .i64 v0)).1.stored (t * 3 + 1) (.int .i64 v1)).1.stored (t * 3 + 2) (.int .i64 v2)).1
          rw [← JS.out] at GS
          have I9 := own_belowk IJ.out B9.out
          have O9 := own_belowk OJ.out B9.out
          have ne1 := own_blk_ne G9.out K9.out NE1
          have ne2 := own_own_ne G9.out I9 NE3
          have ne3 := own_own_ne G9.out O9 NE3
          have IS := own_far (own_far (own_far I9 (p := ⟨g', t * 3, none⟩) (fun e => ne2 e.symm) (.int .i64 v0)) (p := ⟨g', t * 3 + 1, none⟩) (fun e => ne2 e.symm) (.int .i64 v1)) (p := ⟨g', t * 3 + 2, none⟩) (fun e => ne2 e.symm) (.int .i64 v2)
          have OS := own_far (own_far (own_far O9 (p := ⟨g', t * 3, none⟩) (fun e => ne3 e.symm) (.int .i64 v0)) (p := ⟨g', t * 3 + 1, none⟩) (fun e => ne3 e.symm) (.int .i64 v1)) (p := ⟨g', t * 3 + 2, none⟩) (fun e => ne3 e.symm) (.int .i64 v2)
          have KS := ((K9.out.far (p := ⟨g', t * 3, none⟩) (fun e => ne1 e.symm) (.int .i64 v0)).far (p := ⟨g', t * 3 + 1, none⟩) (fun e => ne1 e.symm) (.int .i64 v1)).far (p := ⟨g', t * 3 + 2, none⟩) (fun e => ne1 e.symm) (.int .i64 v2)
          have BS := Below.set1 (i := t * 3 + 2) (Below.set1 (i := t * 3 + 1) (Below.set1 (i := t * 3) (BJ.out.trans (B9.out.mono (Nat.le_trans s6 SJ.out))) hg5 (.int .i64 v0)) hg5 (.int .i64 v1)) hg5 (.int .i64 v2)
          have SS : wc.heap.size ≤ (((w9.setCell ⟨g', t * 3, none⟩ (.int .i64 v0)).setCell ⟨g', t * 3 + 1, none⟩ (.int .i64 v1)).setCell ⟨g', t * 3 + 2, none⟩ (.int .i64 v2)).heap.size := by
            simp only [World.size_setCell]; exact Nat.le_trans SJ.out B9.out.size
          generalize ((w9.setCell ⟨g', t * 3, none⟩ (.int .i64 v0)).setCell ⟨g', t * 3 + 1, none⟩ (.int .i64 v1)).setCell ⟨g', t * 3 + 2, none⟩ (.int .i64 v2) = wz at *
          have GS := Lib.hid GS
          have IS := Lib.hid IS
          have OS := Lib.hid OS
          have KS := Lib.hid KS
          have BS := Lib.hid BS
          clear a0 a1 a2 a3 a4 a5 a6 c0 c1 c2 d0 d1 d2 d3 d4 d5 d6 h0 h1 h2 r0 r1 r2 I9 O9
          obtain ⟨a0, a1, a2, a3, a4, a5, a6⟩ := KS.out.three6
          go_wp2_with (at_builtin; refine wpList_append1 rfl _ _ 23 rfl wc.heap.size 3 i0 (.int .i64 0) 8 Try.underlying23 hi0 hz0 hz1 hz2 rfl _ P c _ rfl OS.out (.int .i64 (I + (t : Int))) rfl rfl (by unfold maxLen; omega) (by omega) SS ?_; intro g8 c8 w8 hown8 hbel8; have K8 := Lib.hid (KS.out.below hbel8 hgl); have G8 := Lib.hid (own_low GS.out hg6 hbel8); have I8 := Lib.hid (own_low IS.out hA6 hbel8); have O8 := Lib.hid hown8; have B8 := Lib.hid (BS.out.trans (hbel8.mono s6)); have S8 := Lib.hid (Nat.le_trans SS hbel8.size); clear hown8 hbel8)
          go_roundw
          case rel => exact ⟨j + 1, t + 1, P + 1, _, _, by omega, Lib.hid (by have := HT.out; omega), Lib.hid (by have := HP.out; omega), rfl, by go_num, K8, Lib.hid (by rw [JW.out]; exact O8.out), G8, I8, B8, S8⟩
          case measure => simp [intOf]; omega
      · obtain rfl : j = m := by omega
        have htN : t = N := by omega
        have htI : ¬ ((t : Int) < (N : Int)) := by omega
        have hdl := EQ.out.2.2.2.1
        have hPl : (wl C.o I n j).length = P := by rw [wl_len, ← EQ.out.2.2.1, hPn]
        have RW := Lib.hid (Reads.of_own OJ.out)
        have HWI := Lib.hid (fun s (hs : s < q) => (isw_iff _ _).1 (QD.out.2.2 s (by rw [← hdl]; exact hs)))
        have hJ := EQ.out.2.2.2.2.2
        have hmj := EQ.out.2.1
        obtain ⟨OO, hOO⟩ : ∃ OO : List Int, OO = D.o.map fun k => ig (wl C.o I n j) k.toNat := ⟨_, rfl⟩
        have HOL := Lib.hid (show D.o.length = OO.length by rw [hOO, List.length_map])
        have HOS := Lib.hid (fun s (hs : s < q) => show ig OO s = ig (wl C.o I n j) (ig D.o s).toNat by
          have h1 : s < D.o.length := by rw [← hdl]; exact hs
          rw [hOO]; simp [ig, List.getD, List.getElem?_eq_getElem h1])
        have HJO := Lib.hid (show (jn C D).o = OO by rw [hOO]; show (D.o.map fun k => ig (wl C.o C.ins C.n D.n) k.toNat) = _; rw [← EQ.out.1, ← EQ.out.2.1, ← EQ.out.2.2.2.2.1])
        have I0 := Lib.hid (show wr.ownsRow w5.heap.size 3 1 (.slice (some ⟨gA, 0, none⟩) q cA) q (il (OO.take 0 ++ D.o.drop 0)) by simpa using IJ.out)
        have HPJ := Lib.hid (show (D.ins : Int) + (D.n : Int) = (P : Int) by rw [← hJ, ← hmj, hPn]; omega)
        have hWA := (OJ.out.lt gW rfl).1
        have HDL := Lib.hid hdl
        generalize wl C.o I n j = W at RW HOS hPl
        have HPL := Lib.hid hPl
        clear hjm htn hPn hNn hPl hJ hmj hOO hdl
        obtain ⟨wo, rfl⟩ : ∃ wo, wo = wr := ⟨_, rfl⟩
        go_wp2
        go_loopw [85] (fun iv wq => ∃ s : Nat, s ≤ q ∧ iv = .int .i64 (s : Int) ∧ Hid (Blk wq gc 25 #[.int .i64 I, .slice (some ⟨g', 0, none⟩) N c', .slice (some ⟨gA, 0, none⟩) q cA]) ∧ Hid (Reads wq wo.heap.size (some ⟨gW, 0, none⟩) P (il W)) ∧ Hid (wq.ownsRow w5.heap.size 43 3 (.slice (some ⟨g', 0, none⟩) N c') N (cells3 (jg C D j) N)) ∧ Hid (wq.ownsRow w5.heap.size 3 1 (.slice (some ⟨gA, 0, none⟩) q cA) q (il (OO.take s ++ D.o.drop s))) ∧ Hid (Below w5.heap.size w7 wq)) (fun iv _ => q - (intOf iv).toNat)
        case atStart => exact ⟨0, Nat.zero_le _, rfl, KJ, RW, GJ, I0, BJ⟩
        case round =>
          obtain ⟨s, hs, rfl, KS, RS, GS, IS, BS⟩ := hrel
          clear a0 a1 a2 a3 a4 a5 a6
          obtain ⟨a0, a1, a2, a3, a4, a5, a6⟩ := KS.out.three6
          by_cases hsq : s < q
          · have hls : (OO.take s ++ D.o.drop s).length = q := by
              have h1 := HOL.out; have h2 := HDL.out
              rw [List.length_append, List.length_take, List.length_drop]; omega
            have e0 : ig (OO.take s ++ D.o.drop s) s = ig D.o s := by
              have h1 := HOL.out; have h2 := HDL.out
              have h3 : (OO.take s).length = s := by rw [List.length_take]; omega
              rw [ig, ig, List.getD_eq_getElem?_getD, List.getD_eq_getElem?_getD, List.getElem?_append_right (by omega), h3, Nat.sub_self, List.getElem?_drop]; simp
            obtain ⟨x0, x1⟩ := HWI.out s hsq
            rw [HPJ.out] at x1
            have hos := HOS.out s hsq
            have TDS := Lib.hid (take_drop_set (l := D.o) (l' := OO) (s := s) (by rw [← HDL.out]; exact hsq) HOL.out)
            obtain ⟨k, hkk⟩ : ∃ k : Nat, ig D.o s = (k : Int) := ⟨(ig D.o s).toNat, by omega⟩
            have c0 : wr.cell? ⟨gA, s, none⟩ = some (.int .i64 (k : Int)) := by
              have h1 := IS.out.cellAt s (by omega)
              rw [h1, ← hkk, ← e0]
              exact il_at0 (by omega)
            have f0 := IS.out.frozenAt s
            rw [hkk] at hos x0 x1
            rw [Int.toNat_natCast] at hos
            have k1 : k < P := by omega
            obtain ⟨ad, had, hbd, c1⟩ := il_at RS.out k1
            injection had with had
            subst had
            have c1 : wr.cell? ⟨gW, k, none⟩ = some (.int .i64 (ig W k)) := by rw [add0] at c1; exact c1
            rw [hos] at TDS
            generalize ig W k = v at c1 TDS
            have hsI : (s : Int) < (q : Int) := by omega
            have c1d : (wr.drew).cell? ⟨gW, k, none⟩ = some (.int .i64 v) := c1
            have ne1 := own_blk_ne IS.out KS.out NE2
            have ne2 := own_own_ne GS.out IS.out NE3
            have K9 := Lib.hid (KS.out.far (p := ⟨gA, s, none⟩) (fun e => ne1 e.symm) (.int .i64 v)).drew
            have R9 := Lib.hid (RS.out.far (p := ⟨gA, s, none⟩) (fun ad _ e => by injection e with e; subst e; show gW ≠ gA; omega) (.int .i64 v)).drew
            have G9 := Lib.hid (own_drew (own_far GS.out (p := ⟨gA, s, none⟩) ne2 (.int .i64 v)))
            have hI9 := own_drew (IS.out.stored s (.int .i64 v)).1
            rw [il_set, TDS.out] at hI9
            have I9 := Lib.hid hI9
            have B9 := Lib.hid (Below.set1 (i := s) BS.out hA5 (.int .i64 v)).drew
            clear hkk e0 hos x0 hI9 ne1 ne2
            go_upto_region 15 with (fail)
            go_region
            go_wp2
            go_roundw
            case rel => exact ⟨s + 1, by omega, by go_num, K9, R9, G9, I9, B9⟩
            case measure => simp [intOf]; omega
          · obtain rfl : s = q := by omega
            have hoo : OO.take s ++ D.o.drop s = OO := by
              have h1 := HOL.out; have h2 := HDL.out
              rw [List.take_of_length_le (by omega), List.drop_of_length_le (by omega), List.append_nil]
            rw [hoo] at IS
            have KR := Lib.hid ((N3.out.below B8.out h53).below BS.out h53)
            have BW := Lib.hid (BC.out.trans ((B8.out.trans BS.out).mono s5))
            obtain ⟨r0, r1, r2, r3, r4, r5, r6⟩ := KR.out.three6
            have ne1 : gc ≠ w.heap.size + 1 + 1 := by omega
            have ne2 : g' ≠ w.heap.size + 1 + 1 := by omega
            have ne3 : gA ≠ w.heap.size + 1 + 1 := by omega
            clear hoo
            go_wp2
            have KZ := KR.out.all3 (.int .i64 I) (.slice (some ⟨g', 0, none⟩) N c') (.slice (some ⟨gA, 0, none⟩) s cA)
            obtain ⟨z0', z1', z2', _, _, _, _⟩ := KZ.three6
            have GZ := own_far3 GS.out ne2 (.int .i64 I) (.slice (some ⟨g', 0, none⟩) N c') (.slice (some ⟨gA, 0, none⟩) s cA)
            have IZ := own_far3 IS.out ne3 (.int .i64 I) (.slice (some ⟨g', 0, none⟩) N c') (.slice (some ⟨gA, 0, none⟩) s cA)
            have BZ := Below.set1 (i := 2) (Below.set1 (i := 1) (Below.set1 (i := 0) BW.out (show w.heap.size ≤ w.heap.size + 1 + 1 by omega) (.int .i64 I)) (show w.heap.size ≤ w.heap.size + 1 + 1 by omega) (.slice (some ⟨g', 0, none⟩) N c')) (show w.heap.size ≤ w.heap.size + 1 + 1 by omega) (.slice (some ⟨gA, 0, none⟩) s cA)
            refine bodyPost_ret (v := .tuple #[.agg #[.int .i64 I, .slice (some ⟨g', 0, none⟩) N c', .slice (some ⟨gA, 0, none⟩) s cA], .int .i64 0]) (by simp [results, Try.results10, go_sem, z0', z1', z2']) rfl ⟨some ⟨g', 0, none⟩, some ⟨gA, 0, none⟩, c', cA, by rw [HN.out], ⟨?_, ?_⟩, BZ⟩
            · have hx := CReads.of_own GZ
              have e1 : (jn C D).n = N := by rw [HN.out, EQ.out.1, EQ.out.2.1]; rfl
              have e2 : (jn C D).g = jg C D j := by rw [EQ.out.2.1]; rfl
              rw [e1, e2]
              exact hx
            · have hx := Reads.of_own IZ
              rw [HJO.out, ← HOL.out, ← HDL.out]
              exact hx
end Go.Proofs.Ytfoheeijdaknnaa
