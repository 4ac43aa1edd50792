/- The walk of merge on two valid patterns, with a function value that may turn one block of its own. -/
import Derived.Test.YtobaabankhpfjaaDoorTake
import Derived.Test.YtobaabankhpfjaaDoorFrom
namespace Go.Proofs.YtobaabankhpfjaaDoor
open Go.RowKit

/-- below block B nothing but block D has been turned -/
def Bel (D B : Nat) (w w' : World) : Prop :=
  (w'.os = w.os ∧ w'.tape = w.tape ∧ w'.output = w.output ∧ w.heap.size ≤ w'.heap.size) ∧ ∀ k, k < B → k ≠ D → w'.heap[k]? = w.heap[k]?
section
variable {D B B' : Nat} {w w1 w2 : World}
theorem Bel.of (h : Below B w w1) : Bel D B w w1 := ⟨⟨h.os, h.tape, h.output, h.size⟩, fun k hk _ => h.block k hk⟩
theorem Bel.refl (D B : Nat) (w : World) : Bel D B w w := .of (Below.refl B w)
theorem Bel.size (h : Bel D B w w1) : w.heap.size ≤ w1.heap.size := h.1.2.2.2
theorem Bel.trans (h : Bel D B w w1) (h' : Bel D B w1 w2) : Bel D B w w2 :=
  ⟨⟨h'.1.1.trans h.1.1, h'.1.2.1.trans h.1.2.1, h'.1.2.2.1.trans h.1.2.2.1, Nat.le_trans h.size h'.size⟩, fun k hk hd => (h'.2 k hk hd).trans (h.2 k hk hd)⟩
theorem Bel.mono (h : Bel D B w w1) (hB : B' ≤ B) : Bel D B' w w1 := ⟨h.1, fun k hk hd => h.2 k (Nat.lt_of_lt_of_le hk hB) hd⟩
theorem Bel.then (h : Bel D B w w1) (h' : Below w1.heap.size w1 w2) (hB : B ≤ w1.heap.size) : Bel D B w w2 := h.trans ((Bel.of h').mono hB)
theorem Bel.below (h : Bel D B w w1) (hd : w1.heap[D]? = w.heap[D]?) : Below B w w1 :=
  ⟨h.1.1, h.1.2.1, h.1.2.2.1, h.size, fun k hk => by
    by_cases e : k = D
    · rw [e]; exact hd
    · exact h.2 k hk e⟩
theorem Blk.bel {g : Nat} {t : TypeId} {cs : Array Value} (h : Blk w g t cs) (hb : Bel D B w w1) (hg : g < B) (hd : g ≠ D) : Blk w1 g t cs := (hb.2 g hg hd).trans h
theorem own_bel3 {base : Nat} {e : TypeId} {v : Value} {n : Nat} {xs : List Value} (h : w.ownsRow base e 3 v n xs) (hb : Bel D w.heap.size w w1) (hd : D < base) : w1.ownsRow base e 3 v n xs := by
  refine ⟨h.1, ?_⟩
  rcases h.2 with hn | ⟨g, cap, cur, rfl, hb', hg, rest⟩
  · exact .inl hn
  · refine .inr ⟨g, cap, cur, rfl, hb', ?_, rest⟩
    rw [hb.2 g (Array.getElem?_eq_some_iff.1 hg).1 (by omega)]; exact hg
end

/-- the merging, step by step: from the i-th and the j-th cell on, behind the cells l and the flag b -/
def run (ch : Int → Int → Int) (up : Int → Int → Bool) (f : Nat → C3) (n : Nat) (g : Nat → C3) (m : Nat) : Nat → Nat → Nat → List C3 → Bool → List C3 × Bool
  | 0, _, _, l, b => (l, b)
  | k + 1, i, j, l, b =>
    if i < n ∨ j < m then
      run ch up f n g m k (i + ht (sh f i) (n - i) (fst2 (sh f i) (n - i) (sh g j) (m - j))) (j + ht (sh g j) (m - j) (fst2 (sh f i) (n - i) (sh g j) (m - j)))
        (if ch (vl (sh f i) (n - i) (fst2 (sh f i) (n - i) (sh g j) (m - j))) (vl (sh g j) (m - j) (fst2 (sh f i) (n - i) (sh g j) (m - j))) = 0 then l
          else l ++ [((fst2 (sh f i) (n - i) (sh g j) (m - j)).1, (fst2 (sh f i) (n - i) (sh g j) (m - j)).2.1, ch (vl (sh f i) (n - i) (fst2 (sh f i) (n - i) (sh g j) (m - j))) (vl (sh g j) (m - j) (fst2 (sh f i) (n - i) (sh g j) (m - j))))])
        (b && up (vl (sh f i) (n - i) (fst2 (sh f i) (n - i) (sh g j) (m - j))) (vl (sh g j) (m - j) (fst2 (sh f i) (n - i) (sh g j) (m - j))))
    else (l, b)
theorem run_end (ch : Int → Int → Int) (up : Int → Int → Bool) (f : Nat → C3) (n : Nat) (g : Nat → C3) (m k : Nat) (l : List C3) (b : Bool) : run ch up f n g m k n m l b = (l, b) := by
  cases k with
  | zero => rfl
  | succ k => unfold run; rw [if_neg (by omega)]
theorem run_step (ch : Int → Int → Int) (up : Int → Int → Bool) (f : Nat → C3) (n : Nat) (g : Nat → C3) (m k i j p q : Nat) (l : List C3) (b : Bool) (x : C3) (s t : Int) (hp : i + p = n) (hq : j + q = m) (ho : 0 < p ∨ 0 < q)
    (hx : x = fst2 (sh f i) p (sh g j) q) (hs : s = vl (sh f i) p x) (ht' : t = vl (sh g j) q x) :
    run ch up f n g m (k + 1) i j l b = run ch up f n g m k (i + ht (sh f i) p x) (j + ht (sh g j) q x) (if ch s t = 0 then l else l ++ [(x.1, x.2.1, ch s t)]) (b && up s t) := by
  have e1 : n - i = p := by omega
  have e2 : m - j = q := by omega
  rw [run, if_pos (by omega), e1, e2, ← hx, ← hs, ← ht']
theorem size_set (w : World) (p : Addr) (v : Value) : (w.setCell p v).heap.size = w.heap.size := by simp [World.setCell]
/-- a slice's length -/
def lenOf : Value → Nat
  | .slice _ n _ => n
  | _ => 0
theorem sh_sh (f : Nat → C3) (i d : Nat) : sh (sh f i) d = sh f (i + d) := funext fun k => by unfold sh; rw [Nat.add_assoc]
theorem sh_zero (f : Nat → C3) : sh f 0 = f := funext fun k => by unfold sh; rw [Nat.zero_add]

section
variable (A A' : Option Addr) (n m c c' : Nat) (f g : Nat → C3) (w : World)
set_option maxRecDepth 100000 in
set_option maxHeartbeats 4000000 in
theorem merge_any (G D : Nat) (cb : Array Value) (ch : Int → Int → Int) (up : Int → Int → Bool) (P : Bool → World → Prop) (b0 : Bool)
    (eg : ∀ args w, (callFunc G args).run Tryd.prog w = .ok (.enter G args) w)
    (hD : D < w.heap.size) (hP : ∀ b w1 w2, P b w1 → w2.heap[D]? = w1.heap[D]? → P b w2)
    (HC : ∀ s t b w1, D < w1.heap.size → P b w1 → Calls Tryd.prog G (#[.int .i64 s, .int .i64 t] ++ cb) w1 fun e w' => e = .returned (.int .i64 (ch s t)) ∧ P (b && up s t) w' ∧ Bel D w1.heap.size w1 w')
    (HA : ∀ b w', P b w' → Bel D w.heap.size w w' → CReads w' w.heap.size A n f) (HA' : ∀ b w', P b w' → Bel D w.heap.size w w' → CReads w' w.heap.size A' m g)
    (h0 : P b0 w) (hok : OkL f n) (hok' : OkL g m) (hc : n ≤ c) (hc' : m ≤ c') (hnm : n + m ≤ 5000) :
    Calls Tryd.prog 28 #[.slice A n c, .slice A' m c', .func (.func G) #[] cb] w fun e w' =>
      ∃ A2 c2 l b, e = .returned (.tuple #[.slice A2 l.length c2, .int .i64 0]) ∧ (l, b) = run ch up f n g m (n + m) 0 0 [] b0 ∧ w'.ownsRow w.heap.size 40 3 (.slice A2 l.length c2) l.length (l.flatMap fun x => [.int .i64 x.1, .int .i64 x.2.1, .int .i64 x.2.2]) ∧ P b w' ∧ Bel D w.heap.size w w' := by
  obtain ⟨i0, hi, hz0, hz1, hz2⟩ := info_parts Tryd.info_cell
  have hn5 := hok.1
  have hm5 := hok'.1
  have R1 := Lib.hid (fun (w' : World) (h : CReads w' w'.heap.size A n f) => by have := pright_any A n c f w' h (by omega); rwa [decide_eq_true hok] at this)
  have R2 := Lib.hid (fun (w' : World) (h : CReads w' w'.heap.size A' m g) => by have := pright_any A' m c' g w' h (by omega); rwa [decide_eq_true hok'] at this)
  have HPH := Lib.hid hP
  have PB : ∀ b w1 w2, D < w1.heap.size → P b w1 → Below w1.heap.size w1 w2 → P b w2 := fun b w1 w2 hd h hb => hP b w1 w2 h (hb.block D hd)
  have zz := Lib.hid PB
  (try clear PB)
  have PB := zz
  clear zz
  have zz := Lib.hid HC
  (try clear HC)
  have HC := zz
  clear zz
  have zz := Lib.hid HA
  (try clear HA)
  have HA := zz
  clear zz
  have zz := Lib.hid HA'
  (try clear HA')
  have HA' := zz
  clear zz
  have H0 := Lib.hid h0
  have RA := Lib.hid (HA.out b0 w h0 (Bel.refl _ _ _))
  have HD := Lib.hid hD
  clear hok hok' hP h0
  go_enter Tryd.func28, Tryd.ntmps28
  go_wp2_with (first
    | (go_at_call 19; (with_reducible refine (R1.out _ RA.out).mono ?_); rintro e w1 ⟨rfl, hb⟩; have B1 := Lib.hid hb; have P1 := Lib.hid (PB.out _ _ _ HD.out H0.out hb); have RB := Lib.hid ((HA'.out _ _ P1.out (Bel.of hb)).more hb.size); clear hb)
    | (go_at_call 19; (with_reducible refine (R2.out _ RB.out).mono ?_); rintro e w2 ⟨rfl, hb⟩; have B2 := Lib.hid ((Bel.of (D := D) B1.out).then hb B1.out.size); have P2 := Lib.hid (PB.out _ _ _ (Nat.lt_of_lt_of_le HD.out B1.out.size) P1.out hb); clear hb))
  go_loopw [0, 1, 8] (fun av bv lv wr => ∃ (i j p q k : Nat) (l : List C3) (b : Bool) (A1 A2 A3 : Option Addr) (c1 c2 c3 : Nat), i + p = n ∧ j + q = m ∧ p + q ≤ k ∧ l.length ≤ i + j ∧
      av = .slice A1 p c1 ∧ p ≤ c1 ∧ bv = .slice A2 q c2 ∧ q ≤ c2 ∧ lv = .slice A3 l.length c3 ∧
      (∀ w B, CReads w B A n f → CReads w B A1 p (sh f i)) ∧ (∀ w B, CReads w B A' m g → CReads w B A2 q (sh g j)) ∧
      run ch up f n g m (n + m) 0 0 [] b0 = run ch up f n g m k i j l b ∧ wr.ownsRow w.heap.size 40 3 (.slice A3 l.length c3) l.length (l.flatMap fun x => [.int .i64 x.1, .int .i64 x.2.1, .int .i64 x.2.2]) ∧ P b wr ∧ Bel D w.heap.size w wr) (fun av bv _ _ => lenOf av + lenOf bv)
  case atStart => exact ⟨0, 0, n, m, n + m, [], b0, A, A', none, c, c', 0, by omega, by omega, by omega, Nat.le_refl _, rfl, hc, rfl, hc', rfl, fun w B h => by rw [sh_zero]; exact h, fun w B h => by rw [sh_zero]; exact h, rfl, World.ownsRow_nil _ _ _ _, P2.out, B2.out⟩
  case round =>
    obtain ⟨i, j, p, q, k, l, b, A1, A2, A3, c1, c2, c3, hi1, hj1, hk, hl, rfl, hc1, rfl, hc2, rfl, hA1, hA2, hrun, hown, hp, hbel⟩ := hrel
    have HRUN := Lib.hid hrun
    have HW := Lib.hid hown
    have HP := Lib.hid hp
    have HB := Lib.hid hbel
    have HA1 := Lib.hid hA1
    have HA2 := Lib.hid hA2
    have hsz := hbel.size
    clear hrun hown hp hbel hA1 hA2 R1 R2 B1 B2 P1 P2 RA RB
    by_cases ho : 0 < p ∨ 0 < q
    · obtain ⟨k', rfl⟩ : ∃ k', k = k' + 1 := ⟨k - 1, by omega⟩
      have ho' := Lib.hid ho
      have FA := first_any A1 A2 p q c1 c2 (sh f i) (sh g j) wr ((HA1.out _ _ (HA.out _ _ HP.out HB.out)).more hsz) ((HA2.out _ _ (HA'.out _ _ HP.out HB.out)).more hsz) hc1 hc2 ho
      have hits := first_hits p q (sh f i) (sh g j) ho
      have RS := fun s t => run_step ch up f n g m k' i j p q l b (fst2 (sh f i) p (sh g j) q) s t hi1 hj1 ho rfl
      have T1 := fun (w' : World) (h : CReads w' w'.heap.size A1 p (sh f i)) => take_any A1 p c1 (sh f i) w' (fst2 (sh f i) p (sh g j) q) h hc1
      have T2 := fun (w' : World) (h : CReads w' w'.heap.size A2 q (sh g j)) => take_any A2 q c2 (sh g j) w' (fst2 (sh f i) p (sh g j) q) h hc2
      have l1 := ht_le p (sh f i) (fst2 (sh f i) p (sh g j) q)
      have l2 := ht_le q (sh g j) (fst2 (sh f i) p (sh g j) q)
      generalize fst2 (sh f i) p (sh g j) q = x at FA hits RS T1 T2 l1 l2
      obtain ⟨x1, x2, x3⟩ := x
      generalize ht (sh f i) p (x1, x2, x3) = u1 at hits RS T1 l1
      generalize ht (sh g j) q (x1, x2, x3) = u2 at hits RS T2 l2
      have zz := RS _ _ rfl rfl
      (try clear RS)
      have RS := zz
      clear zz
      generalize vl (sh f i) p (x1, x2, x3) = s at RS T1
      generalize vl (sh g j) q (x1, x2, x3) = t at RS T2
      have zz := Lib.hid FA
      (try clear FA)
      have FA := zz
      clear zz
      have zz := Lib.hid T1
      (try clear T1)
      have T1 := zz
      clear zz
      have zz := Lib.hid T2
      (try clear T2)
      have T2 := zz
      clear zz
      have zz := Lib.hid RS
      (try clear RS)
      have RS := zz
      clear zz
      have HC1 := fun w1 => HC.out s t b w1
      generalize ch s t = r at HC1 RS
      have zz := Lib.hid HC1
      (try clear HC1)
      have HC1 := zz
      clear zz
      have RDA := Lib.hid (fun (w' : World) (h : P b w') (h' : Bel D w.heap.size w w') => (HA1.out _ _ (HA.out _ _ h h')).more h'.size)
      have RDB := Lib.hid (fun (w' : World) (h : P b w') (h' : Bel D w.heap.size w w') => (HA2.out _ _ (HA'.out _ _ h h')).more h'.size)
      by_cases hp0 : p = 0
      · subst hp0
        have hq0 : 0 < q := by omega
        have d1 : decide (0 < (q : Int)) = true := by rw [decide_eq_true_iff]; omega
        have d2 : decide (0 < q) = true := by rw [decide_eq_true_iff]; omega
        by_cases hr : r = 0
        · subst hr
          go_wp2_with (first
            | (go_at_call 44; (with_reducible refine FA.out.mono ?_); rintro e w1 ⟨rfl, hb⟩; have s1 := Nat.le_trans hsz hb.size; have KX := Lib.hid (Blk.new w1 40 #[.int .i64 x1, .int .i64 x2, .int .i64 x3]); have hal := (Below.refl w1.heap.size w1).alloc (Nat.le_refl _) (.cells #[.int .i64 x1, .int .i64 x2, .int .i64 x3] 40); have C2 := Lib.hid ((Bel.of (D := D) hb).then hal hb.size); have B2 := Lib.hid (HB.out.trans (C2.out.mono hsz)); have P2 := Lib.hid (PB.out _ _ _ (Nat.lt_of_lt_of_le HD.out s1) (PB.out _ _ _ (Nat.lt_of_lt_of_le HD.out hsz) HP.out hb) hal); have hrw1 := hb.size; clear hb hal)
            | (go_at_call 45; (with_reducible refine (T1.out _ (RDA.out _ P2.out B2.out)).mono ?_); rintro e w3 ⟨A4, c4, rfl, hc4, hA4, hb⟩; have hA4 := Lib.hid hA4; have K3 := Lib.hid (KX.out.below hb KX.out.lt); have C3 := Lib.hid (C2.out.then hb C2.out.size); have B3 := Lib.hid (HB.out.trans (C3.out.mono hsz)); have P3 := Lib.hid (PB.out _ _ _ (Nat.lt_of_lt_of_le HD.out B2.out.size) P2.out hb); obtain ⟨k30, k31, k32, k33⟩ := K3.out.three; clear hb)
            | (go_at_call 45; (with_reducible refine (T2.out _ (RDB.out _ P3.out B3.out)).mono ?_); rintro e w4 ⟨A5, c5, rfl, hc5, hA5, hb⟩; have hA5 := Lib.hid hA5; have K4 := Lib.hid (K3.out.below hb K3.out.lt); have C4 := Lib.hid (C3.out.then hb C3.out.size); have B4 := Lib.hid (HB.out.trans (C4.out.mono hsz)); have P4 := Lib.hid (PB.out _ _ _ (Nat.lt_of_lt_of_le HD.out B3.out.size) P3.out hb); clear hb)
            | ((with_reducible refine (HC1.out _ (Nat.lt_of_lt_of_le HD.out B4.out.size) P4.out).mono ?_); rintro e w5 ⟨rfl, hp5, hb5⟩; have K5 := Lib.hid (K4.out.bel hb5 K4.out.lt (by have := HD.out; omega)); have hst := (Below.refl wr.heap.size w5).setCell (p := ⟨w1.heap.size, 2, none⟩) hrw1 (.int .i64 0); have C6 := Lib.hid ((C4.out.trans (hb5.mono C4.out.size)).trans (Bel.of hst)); have B6 := Lib.hid (HB.out.trans (C6.out.mono hsz)); have P6 := Lib.hid (HPH.out _ _ _ hp5 (Below.heap_setCell w5 ⟨w1.heap.size, 2, none⟩ (.int .i64 0) D (by have := HD.out; show D ≠ w1.heap.size; omega))); obtain ⟨k50, k51, k52, k53⟩ := K5.out.three; have k54 := K5.out.frozen 2; clear hb5 hp5 hst)
            | fail)
          go_roundw
          case rel =>
            refine ⟨i + u1, j + u2, _, _, k', l, b && up s t, A4, A5, A3, c4, c5, c3, by omega, by omega, by omega, by omega, rfl, (by omega), rfl, (by omega), rfl, fun w B h => ?_, fun w B h => ?_, ?_, own_bel3 HW.out C6.out HD.out, P6.out, B6.out⟩
            · rw [← sh_sh]; have h9 := hA4.out _ _ (HA1.out _ _ h); first | exact h9 | (rw [Nat.zero_sub] at h9; exact h9)
            · rw [← sh_sh]; have h9 := hA5.out _ _ (HA2.out _ _ h); first | exact h9 | (rw [Nat.zero_sub] at h9; exact h9)
            · rw [HRUN.out, RS.out]; rfl
          case measure => simp only [lenOf]; omega
        · have hez : (r != 0) = true := by simpa using hr
          have HR := Lib.hid hr
          clear hr
          go_wp2_with (first
            | (go_at_call 44; (with_reducible refine FA.out.mono ?_); rintro e w1 ⟨rfl, hb⟩; have s1 := Nat.le_trans hsz hb.size; have KX := Lib.hid (Blk.new w1 40 #[.int .i64 x1, .int .i64 x2, .int .i64 x3]); have hal := (Below.refl w1.heap.size w1).alloc (Nat.le_refl _) (.cells #[.int .i64 x1, .int .i64 x2, .int .i64 x3] 40); have C2 := Lib.hid ((Bel.of (D := D) hb).then hal hb.size); have B2 := Lib.hid (HB.out.trans (C2.out.mono hsz)); have P2 := Lib.hid (PB.out _ _ _ (Nat.lt_of_lt_of_le HD.out s1) (PB.out _ _ _ (Nat.lt_of_lt_of_le HD.out hsz) HP.out hb) hal); have hrw1 := hb.size; clear hb hal)
            | (go_at_call 45; (with_reducible refine (T1.out _ (RDA.out _ P2.out B2.out)).mono ?_); rintro e w3 ⟨A4, c4, rfl, hc4, hA4, hb⟩; have hA4 := Lib.hid hA4; have K3 := Lib.hid (KX.out.below hb KX.out.lt); have C3 := Lib.hid (C2.out.then hb C2.out.size); have B3 := Lib.hid (HB.out.trans (C3.out.mono hsz)); have P3 := Lib.hid (PB.out _ _ _ (Nat.lt_of_lt_of_le HD.out B2.out.size) P2.out hb); obtain ⟨k30, k31, k32, k33⟩ := K3.out.three; clear hb)
            | (go_at_call 45; (with_reducible refine (T2.out _ (RDB.out _ P3.out B3.out)).mono ?_); rintro e w4 ⟨A5, c5, rfl, hc5, hA5, hb⟩; have hA5 := Lib.hid hA5; have K4 := Lib.hid (K3.out.below hb K3.out.lt); have C4 := Lib.hid (C3.out.then hb C3.out.size); have B4 := Lib.hid (HB.out.trans (C4.out.mono hsz)); have P4 := Lib.hid (PB.out _ _ _ (Nat.lt_of_lt_of_le HD.out B3.out.size) P3.out hb); clear hb)
            | ((with_reducible refine (HC1.out _ (Nat.lt_of_lt_of_le HD.out B4.out.size) P4.out).mono ?_); rintro e w5 ⟨rfl, hp5, hb5⟩; have K5 := Lib.hid (K4.out.bel hb5 K4.out.lt (by have := HD.out; omega)); have hst := (Below.refl wr.heap.size w5).setCell (p := ⟨w1.heap.size, 2, none⟩) hrw1 (.int .i64 r); have C6 := Lib.hid ((C4.out.trans (hb5.mono C4.out.size)).trans (Bel.of hst)); have B6 := Lib.hid (HB.out.trans (C6.out.mono hsz)); have P6 := Lib.hid (HPH.out _ _ _ hp5 (Below.heap_setCell w5 ⟨w1.heap.size, 2, none⟩ (.int .i64 r) D (by have := HD.out; show D ≠ w1.heap.size; omega))); obtain ⟨k50, k51, k52, k53⟩ := K5.out.three; have k54 := K5.out.frozen 2; clear hb5 hp5 hst)
            | (at_builtin; refine wpList_append3 rfl _ _ 23 rfl w.heap.size 40 i0 (.agg #[.int .i64 0, .int .i64 0, .int .i64 0]) 24 Tryd.underlying23 hi hz0 hz1 hz2 rfl A3 l.length c3 _ rfl (own_bel3 HW.out C6.out HD.out) (.int .i64 x1) (.int .i64 x2) (.int .i64 r) (by rw [size_set]; rfl) rfl rfl rfl (by unfold maxLen; omega) (by omega) B6.out.size ?_; intro g7 c7 w7 hown7 hbel7))
          go_roundw
          case rel =>
            refine ⟨i + u1, j + u2, _, _, k', l ++ [(x1, x2, r)], b && up s t, A4, A5, some ⟨g7, 0, none⟩, c4, c5, c7, by omega, by omega, by omega, by (simp; omega), rfl, (by omega), rfl, (by omega), by simp, fun w B h => ?_, fun w B h => ?_, ?_, by simpa [List.flatMap_append] using hown7, HPH.out _ _ _ P6.out (hbel7.block D HD.out), B6.out.trans (Bel.of hbel7)⟩
            · rw [← sh_sh]; have h9 := hA4.out _ _ (HA1.out _ _ h); first | exact h9 | (rw [Nat.zero_sub] at h9; exact h9)
            · rw [← sh_sh]; have h9 := hA5.out _ _ (HA2.out _ _ h); first | exact h9 | (rw [Nat.zero_sub] at h9; exact h9)
            · rw [HRUN.out, RS.out, if_neg HR.out]
          case measure => simp only [lenOf]; omega
      · have hq0 : 0 < p := by omega
        have d1 : decide (0 < (p : Int)) = true := by rw [decide_eq_true_iff]; omega
        have d2 : decide (0 < p) = true := by rw [decide_eq_true_iff]; omega
        by_cases hr : r = 0
        · subst hr
          go_wp2_with (first
            | (go_at_call 44; (with_reducible refine FA.out.mono ?_); rintro e w1 ⟨rfl, hb⟩; have s1 := Nat.le_trans hsz hb.size; have KX := Lib.hid (Blk.new w1 40 #[.int .i64 x1, .int .i64 x2, .int .i64 x3]); have hal := (Below.refl w1.heap.size w1).alloc (Nat.le_refl _) (.cells #[.int .i64 x1, .int .i64 x2, .int .i64 x3] 40); have C2 := Lib.hid ((Bel.of (D := D) hb).then hal hb.size); have B2 := Lib.hid (HB.out.trans (C2.out.mono hsz)); have P2 := Lib.hid (PB.out _ _ _ (Nat.lt_of_lt_of_le HD.out s1) (PB.out _ _ _ (Nat.lt_of_lt_of_le HD.out hsz) HP.out hb) hal); have hrw1 := hb.size; clear hb hal)
            | (go_at_call 45; (with_reducible refine (T1.out _ (RDA.out _ P2.out B2.out)).mono ?_); rintro e w3 ⟨A4, c4, rfl, hc4, hA4, hb⟩; have hA4 := Lib.hid hA4; have K3 := Lib.hid (KX.out.below hb KX.out.lt); have C3 := Lib.hid (C2.out.then hb C2.out.size); have B3 := Lib.hid (HB.out.trans (C3.out.mono hsz)); have P3 := Lib.hid (PB.out _ _ _ (Nat.lt_of_lt_of_le HD.out B2.out.size) P2.out hb); obtain ⟨k30, k31, k32, k33⟩ := K3.out.three; clear hb)
            | (go_at_call 45; (with_reducible refine (T2.out _ (RDB.out _ P3.out B3.out)).mono ?_); rintro e w4 ⟨A5, c5, rfl, hc5, hA5, hb⟩; have hA5 := Lib.hid hA5; have K4 := Lib.hid (K3.out.below hb K3.out.lt); have C4 := Lib.hid (C3.out.then hb C3.out.size); have B4 := Lib.hid (HB.out.trans (C4.out.mono hsz)); have P4 := Lib.hid (PB.out _ _ _ (Nat.lt_of_lt_of_le HD.out B3.out.size) P3.out hb); clear hb)
            | ((with_reducible refine (HC1.out _ (Nat.lt_of_lt_of_le HD.out B4.out.size) P4.out).mono ?_); rintro e w5 ⟨rfl, hp5, hb5⟩; have K5 := Lib.hid (K4.out.bel hb5 K4.out.lt (by have := HD.out; omega)); have hst := (Below.refl wr.heap.size w5).setCell (p := ⟨w1.heap.size, 2, none⟩) hrw1 (.int .i64 0); have C6 := Lib.hid ((C4.out.trans (hb5.mono C4.out.size)).trans (Bel.of hst)); have B6 := Lib.hid (HB.out.trans (C6.out.mono hsz)); have P6 := Lib.hid (HPH.out _ _ _ hp5 (Below.heap_setCell w5 ⟨w1.heap.size, 2, none⟩ (.int .i64 0) D (by have := HD.out; show D ≠ w1.heap.size; omega))); obtain ⟨k50, k51, k52, k53⟩ := K5.out.three; have k54 := K5.out.frozen 2; clear hb5 hp5 hst)
            | fail)
          go_roundw
          case rel =>
            refine ⟨i + u1, j + u2, _, _, k', l, b && up s t, A4, A5, A3, c4, c5, c3, by omega, by omega, by omega, by omega, rfl, (by omega), rfl, (by omega), rfl, fun w B h => ?_, fun w B h => ?_, ?_, own_bel3 HW.out C6.out HD.out, P6.out, B6.out⟩
            · rw [← sh_sh]; have h9 := hA4.out _ _ (HA1.out _ _ h); first | exact h9 | (rw [Nat.zero_sub] at h9; exact h9)
            · rw [← sh_sh]; have h9 := hA5.out _ _ (HA2.out _ _ h); first | exact h9 | (rw [Nat.zero_sub] at h9; exact h9)
            · rw [HRUN.out, RS.out]; rfl
          case measure => simp only [lenOf]; omega
        · have hez : (r != 0) = true := by simpa using hr
          have HR := Lib.hid hr
          clear hr
          go_wp2_with (first
            | (go_at_call 44; (with_reducible refine FA.out.mono ?_); rintro e w1 ⟨rfl, hb⟩; have s1 := Nat.le_trans hsz hb.size; have KX := Lib.hid (Blk.new w1 40 #[.int .i64 x1, .int .i64 x2, .int .i64 x3]); have hal := (Below.refl w1.heap.size w1).alloc (Nat.le_refl _) (.cells #[.int .i64 x1, .int .i64 x2, .int .i64 x3] 40); have C2 := Lib.hid ((Bel.of (D := D) hb).then hal hb.size); have B2 := Lib.hid (HB.out.trans (C2.out.mono hsz)); have P2 := Lib.hid (PB.out _ _ _ (Nat.lt_of_lt_of_le HD.out s1) (PB.out _ _ _ (Nat.lt_of_lt_of_le HD.out hsz) HP.out hb) hal); have hrw1 := hb.size; clear hb hal)
            | (go_at_call 45; (with_reducible refine (T1.out _ (RDA.out _ P2.out B2.out)).mono ?_); rintro e w3 ⟨A4, c4, rfl, hc4, hA4, hb⟩; have hA4 := Lib.hid hA4; have K3 := Lib.hid (KX.out.below hb KX.out.lt); have C3 := Lib.hid (C2.out.then hb C2.out.size); have B3 := Lib.hid (HB.out.trans (C3.out.mono hsz)); have P3 := Lib.hid (PB.out _ _ _ (Nat.lt_of_lt_of_le HD.out B2.out.size) P2.out hb); obtain ⟨k30, k31, k32, k33⟩ := K3.out.three; clear hb)
            | (go_at_call 45; (with_reducible refine (T2.out _ (RDB.out _ P3.out B3.out)).mono ?_); rintro e w4 ⟨A5, c5, rfl, hc5, hA5, hb⟩; have hA5 := Lib.hid hA5; have K4 := Lib.hid (K3.out.below hb K3.out.lt); have C4 := Lib.hid (C3.out.then hb C3.out.size); have B4 := Lib.hid (HB.out.trans (C4.out.mono hsz)); have P4 := Lib.hid (PB.out _ _ _ (Nat.lt_of_lt_of_le HD.out B3.out.size) P3.out hb); clear hb)
            | ((with_reducible refine (HC1.out _ (Nat.lt_of_lt_of_le HD.out B4.out.size) P4.out).mono ?_); rintro e w5 ⟨rfl, hp5, hb5⟩; have K5 := Lib.hid (K4.out.bel hb5 K4.out.lt (by have := HD.out; omega)); have hst := (Below.refl wr.heap.size w5).setCell (p := ⟨w1.heap.size, 2, none⟩) hrw1 (.int .i64 r); have C6 := Lib.hid ((C4.out.trans (hb5.mono C4.out.size)).trans (Bel.of hst)); have B6 := Lib.hid (HB.out.trans (C6.out.mono hsz)); have P6 := Lib.hid (HPH.out _ _ _ hp5 (Below.heap_setCell w5 ⟨w1.heap.size, 2, none⟩ (.int .i64 r) D (by have := HD.out; show D ≠ w1.heap.size; omega))); obtain ⟨k50, k51, k52, k53⟩ := K5.out.three; have k54 := K5.out.frozen 2; clear hb5 hp5 hst)
            | (at_builtin; refine wpList_append3 rfl _ _ 23 rfl w.heap.size 40 i0 (.agg #[.int .i64 0, .int .i64 0, .int .i64 0]) 24 Tryd.underlying23 hi hz0 hz1 hz2 rfl A3 l.length c3 _ rfl (own_bel3 HW.out C6.out HD.out) (.int .i64 x1) (.int .i64 x2) (.int .i64 r) (by rw [size_set]; rfl) rfl rfl rfl (by unfold maxLen; omega) (by omega) B6.out.size ?_; intro g7 c7 w7 hown7 hbel7))
          go_roundw
          case rel =>
            refine ⟨i + u1, j + u2, _, _, k', l ++ [(x1, x2, r)], b && up s t, A4, A5, some ⟨g7, 0, none⟩, c4, c5, c7, by omega, by omega, by omega, by (simp; omega), rfl, (by omega), rfl, (by omega), by simp, fun w B h => ?_, fun w B h => ?_, ?_, by simpa [List.flatMap_append] using hown7, HPH.out _ _ _ P6.out (hbel7.block D HD.out), B6.out.trans (Bel.of hbel7)⟩
            · rw [← sh_sh]; have h9 := hA4.out _ _ (HA1.out _ _ h); first | exact h9 | (rw [Nat.zero_sub] at h9; exact h9)
            · rw [← sh_sh]; have h9 := hA5.out _ _ (HA2.out _ _ h); first | exact h9 | (rw [Nat.zero_sub] at h9; exact h9)
            · rw [HRUN.out, RS.out, if_neg HR.out]
          case measure => simp only [lenOf]; omega
    · obtain rfl : p = 0 := by omega
      obtain rfl : q = 0 := by omega
      have hll : l.length ≤ 5000 := by omega
      clear ho
      go_wp2
      go_ret2
      refine ⟨A3, c3, l, b, rfl, ?_, HW.out, HP.out, HB.out⟩
      rw [HRUN.out]
      obtain rfl : i = n := by omega
      obtain rfl : j = m := by omega
      exact (run_end _ _ _ _ _ _ _ _ _).symm
end
end Go.Proofs.YtobaabankhpfjaaDoor
