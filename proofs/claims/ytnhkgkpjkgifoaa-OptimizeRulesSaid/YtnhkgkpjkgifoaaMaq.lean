/- The gates of the nodes: collected over circuitOf's second closure, and what a node more leaves. -/
import Derived.Test.YtnhkgkpjkgifoaaMap
import Derived.Test.YtnhkgkpjkgifoaaMac
namespace Go.Proofs.Ytnhkgkpjkgifoaa
open Go.RowKit

/-- a node's elements and level as numbers -/
def nxN (T : Tr) (i : Nat) : List Nat := (T.nx i).map Int.toNat
def lvN (T : Tr) (i : Nat) : Nat := (T.lv i).toNat
theorem nxN_len (T : Tr) (i : Nat) : (nxN T i).length = (T.nx i).length := by simp [nxN]
theorem nxN_at (T : Tr) (i j : Nat) : (nxN T i).getD j 0 = (ig (T.nx i) j).toNat := by
  simp only [nxN, ig, List.getD_eq_getElem?_getD, List.getElem?_map]
  cases (T.nx i)[j]? <;> rfl
theorem nl_nxN {T : Tr} (ht : Rt T) {i : Nat} (hi : i < T.m) : nl (nxN T i) = T.nx i := by
  obtain ⟨_, _, _, h4⟩ := ht.nd i hi
  apply List.ext_getElem
  · simp [nl, nxN]
  · intro j h1 h2
    have h0 := (h4 j h2).1
    have e : ig (T.nx i) j = (T.nx i)[j] := by simp [ig, List.getD_eq_getElem?_getD, h2]
    rw [e] at h0
    simp only [nl, nxN, List.getElem_map]
    omega
/-- the gates of a node's bit -/
def noF (I : Int) (TS RS : List (List Int)) (n lev : Nat) (nx : List Nat) (k : Nat) (gs : List C3) : Int × List C3 :=
  if lev = 1 then eiF I (tlo (TS.getD (n - 1) []) k nx nx.length) gs
  else eiF I (thi I (TS.getD (n - lev) []) (rw0 RS nx k) nx.length gs).1 (thi I (TS.getD (n - lev) []) (rw0 RS nx k) nx.length gs).2
/-- the wires and the gates of i nodes -/
def rsF (I : Int) (TS : List (List Int)) (b n : Nat) (lv : Nat → Nat) (nx : Nat → List Nat) : Nat → List C3 → List (List Int) × List C3
  | 0, gs => ([], gs)
  | i + 1, gs => ((rsF I TS b n lv nx i gs).1 ++ [(coF (fun k g => noF I TS (rsF I TS b n lv nx i gs).1 n (lv i) (nx i) k g) b (rsF I TS b n lv nx i gs).2).1], (coF (fun k g => noF I TS (rsF I TS b n lv nx i gs).1 n (lv i) (nx i) k g) b (rsF I TS b n lv nx i gs).2).2)
theorem eiF_len (I : Int) (l : List Int) (gs : List C3) : (eiF I l gs).2.length ≤ gs.length + l.length + 1 := by
  cases l with
  | nil => simp [eiF]
  | cons x r => rw [eiF, chF_len]; simp; omega
theorem noF_len (I : Int) (TS RS : List (List Int)) (n lev : Nat) (nx : List Nat) (k : Nat) (gs : List C3) : (noF I TS RS n lev nx k gs).2.length ≤ gs.length + (2 * nx.length + 1) := by
  unfold noF
  split
  · have h1 := eiF_len I (tlo (TS.getD (n - 1) []) k nx nx.length) gs
    have h2 := tlo_len (TS.getD (n - 1) []) k nx nx.length
    omega
  · have h1 := eiF_len I (thi I (TS.getD (n - lev) []) (rw0 RS nx k) nx.length gs).1 (thi I (TS.getD (n - lev) []) (rw0 RS nx k) nx.length gs).2
    obtain ⟨h2, h3⟩ := thi_len I (TS.getD (n - lev) []) (rw0 RS nx k) gs nx.length
    omega
theorem rsF_len (I : Int) (TS : List (List Int)) (b n : Nat) (lv : Nat → Nat) (nx : Nat → List Nat) (gs : List C3) (q : Nat) : ∀ i, (∀ j, j < i → (nx j).length ≤ q) → (rsF I TS b n lv nx i gs).2.length ≤ gs.length + i * (b * (2 * q + 1))
  | 0, _ => by simp [rsF]
  | i + 1, hq => by
    have h1 := rsF_len I TS b n lv nx gs q i (fun j hj => hq j (by omega))
    have h2 := coF_len2 (fun k g => noF I TS (rsF I TS b n lv nx i gs).1 n (lv i) (nx i) k g) (2 * q + 1) (fun k g => by
      have := noF_len I TS (rsF I TS b n lv nx i gs).1 n (lv i) (nx i) k g
      have := hq i (by omega)
      omega) (rsF I TS b n lv nx i gs).2 b
    rw [rsF, Nat.succ_mul]
    simp only
    omega
theorem rsF_rows (I : Int) (TS : List (List Int)) (b n : Nat) (lv : Nat → Nat) (nx : Nat → List Nat) (gs : List C3) : ∀ i, (rsF I TS b n lv nx i gs).1.length = i
  | 0 => rfl
  | i + 1 => by rw [rsF, List.length_append, rsF_rows I TS b n lv nx gs i]; rfl
/-- each row of a node has b wires -/
theorem rsF_row (I : Int) (TS : List (List Int)) (b n : Nat) (lv : Nat → Nat) (nx : Nat → List Nat) (gs : List C3) : ∀ i p, p < i → ((rsF I TS b n lv nx i gs).1.getD p []).length = b
  | 0, _, h => absurd h (Nat.not_lt_zero _)
  | i + 1, p, h => by
    have hl := rsF_rows I TS b n lv nx gs i
    rw [rsF]
    simp only
    by_cases hp : p < i
    · rw [(getD_app _ _ [] p i hl).1 hp]
      exact rsF_row I TS b n lv nx gs i p hp
    · obtain rfl : p = i := by omega
      rw [(getD_app _ _ [] p p hl).2]
      exact coF_len _ _ _
/-- the rows of the tests and of the results in memory -/
structure RWs (lb W1 n i b st : Nat) (AG : Option Addr) (cG : Nat) (AR : Option Addr) (cR : Nat) (bl br : List Nat) (TS RS : List (List Int)) (w : World) : Prop where
  tests : w.ownsRow (lb + 1) 26 1 (.slice AG n cG) n (rv st bl)
  trows : ∀ p, p < n → Blk w (bl.getD p 0) 3 (il (TS.getD p [])).toArray ∧ lb + 1 ≤ bl.getD p 0
  res : w.ownsRow W1 26 1 (.slice AR i cR) i (rv b br)
  rrows : ∀ p, p < i → Blk w (br.getD p 0) 3 (il (RS.getD p [])).toArray ∧ lb + 1 ≤ br.getD p 0
theorem gb_row {lb base base' k n c : Nat} {I : Int} {O : Oc} {A B : Option Addr} {gs : List C3} {w : World} {e : TypeId} {xs : List Value} (hS : GSt lb base I O w A gs) (hr : w.ownsRow base' e k (.slice B n c) n xs) (hlb : lb < base') (he : 57 ≠ e) : ∀ q, ob B q → ¬ gb lb A q := fun q hb hg => by
  rcases hg with hg | hg
  · have := (ob_ge hr q hb).1
    omega
  · obtain ⟨c, _, ho⟩ := hS
    exact own_ne2 ho hr he (ob_own.1 hg) (ob_own.1 hb)
theorem gb_blk {lb base g : Nat} {I : Int} {O : Oc} {A : Option Addr} {gs : List C3} {w : World} {cs : Array Value} (hS : GSt lb base I O w A gs) (hk : Blk w g 3 cs) (hlb : lb + 1 ≤ g) : ¬ gb lb A g := fun hg => by
  rcases hg with hg | hg
  · omega
  · obtain ⟨c, _, ho⟩ := hS
    exact own_ob_ne ho hk (by decide) hg
theorem RWs.keep {lb W1 n i b st : Nat} {AG : Option Addr} {cG : Nat} {AR : Option Addr} {cR : Nat} {bl br : List Nat} {TS RS : List (List Int)} {w w' : World} {base : Nat} {I : Int} {O : Oc} {A : Option Addr} {gs : List C3} {G' : Nat → Prop}
    (h : RWs lb W1 n i b st AG cG AR cR bl br TS RS w) (hS : GSt lb base I O w A gs) (hf : Fr (gb lb A) w G' w') (hW : lb < W1) : RWs lb W1 n i b st AG cG AR cR bl br TS RS w' :=
  ⟨hf.row h.tests (fun g hg => gb_row hS h.tests (Nat.lt_succ_self _) (by decide) g (ob_own.2 hg)), fun p hp => ⟨hf.blk (h.trows p hp).1 (gb_blk hS (h.trows p hp).1 (h.trows p hp).2), (h.trows p hp).2⟩,
   hf.row h.res (fun g hg => gb_row hS h.res hW (by decide) g (ob_own.2 hg)), fun p hp => ⟨hf.blk (h.rrows p hp).1 (gb_blk hS (h.rrows p hp).1 (h.rrows p hp).2), (h.rrows p hp).2⟩⟩
/-- a row of rows, read -/
theorem rv_at {w : World} {base s n c : Nat} {A : Option Addr} {bl : List Nat} (h : w.ownsRow base 26 1 (.slice A n c) n (rv s bl)) {p : Nat} (hp : p < n) : ∃ ad, A = some ad ∧ w.cell? (ad.add p) = some (.slice (some ⟨bl.getD p 0, 0, none⟩) s s) := by
  obtain ⟨ad, u, e, _, hx, hc⟩ := (Reads.of_own h).at_ hp
  refine ⟨ad, e, ?_⟩
  rw [hc, ← hx]
  have hl : bl.length = n := by have := h.1; simpa [rv] using this
  simp [rv, List.getD_eq_getElem?_getD, hl, hp]
/-- the third loop's state -/
structure rsB (lb : Nat) (w2 : World) (N n b st cH cN : Nat) (AH AN : Option Addr) (AO : Option Addr) (cO W1 : Nat) (AG : Option Addr) (cG : Nat) (bl : List Nat) (m : Nat) (TS : List (List Int)) (lv : Nat → Nat) (nx : Nat → List Nat) (g0 : List C3) (i : Nat) (AR : Option Addr) (cR : Nat) (br : List Nat) (A : Option Addr) (gs : List C3) (w : World) : Prop where
  gates : (rsF (N : Int) TS b n lv nx i g0).2 = gs
  st_ : GSt lb (lb + 1) (N : Int) ⟨.slice none 0 0, .int .i64 (st : Int), .slice AH n cH, .slice AN m cN, .int .i64 (b : Int), .slice AO N cO, .slice AG n cG, .slice AR i cR⟩ w A gs
  rows : RWs lb W1 n i b st AG cG AR cR bl br TS (rsF (N : Int) TS b n lv nx i g0).1 w
  tl : ∀ k, ob AG k → k < W1
  low : Below lb w2 w
  size : W1 ≤ w.heap.size
set_option maxRecDepth 100000 in
set_option maxHeartbeats 4000000 in
theorem node_any {lb : Nat} {w2 : World} {N n b st cH cN : Nat} {AH AN AO : Option Addr} {cO W1 : Nat} {AG : Option Addr} {cG : Nat} {bl : List Nat} {m : Nat} {TS : List (List Int)} {lv : Nat → Nat} {nx : Nat → List Nat} {g0 : List C3} {i : Nat} {AR : Option Addr} {cR : Nat} {br : List Nat} {A : Option Addr} {gs : List C3} {w : World}
    (h : rsB lb w2 N n b st cH cN AH AN AO cO W1 AG cG bl m TS lv nx g0 i AR cR br A gs w) (hi : i < m) (hm : m ≤ 400) (hN1 : N ≤ 120) (hn : n ≤ 40) (hb3 : b ≤ 3) (hs8 : st ≤ 8) (hs2 : 2 ≤ st) (hW1 : lb + 1 ≤ W1) (hg0 : g0.length ≤ 760) (hlb2 : lb ≤ w2.heap.size)
    (hTS : ∀ p, p < n → (TS.getD p []).length = st) (hnx : ∀ j, j < m → (nx j).length = st) (hlv : 1 ≤ lv i ∧ lv i ≤ n)
    (h1 : lv i = 1 → ∀ j, (nx i).getD j 0 < 8) (h2 : 1 < lv i → ∀ j, j < st → (nx i).getD j 0 < i)
    (AX : Option Addr) (cX : Nat) (hX : Reads w2 lb AX st (il (nl (nx i))))
    (W : World) (hbl : Below (w.heap.size + 1) (w.alloc (.cells #[.int .i64 (lv i : Int), .slice AX st cX] 54)) W) :
    Calls Try.prog 59 #[.int .i64 (b : Int), .func (.func 62) #[] #[.pointer (some ⟨lb, 0, none⟩), .pointer (some ⟨w.heap.size, 0, none⟩)]] W fun e w' => ∃ g A', e = .returned (.slice (some ⟨g, 0, none⟩) b b) ∧ Blk w' g 3 (il (coF (fun k g => noF (N : Int) TS (rsF (N : Int) TS b n lv nx i g0).1 n (lv i) (nx i) k g) b gs).1).toArray ∧ w.heap.size + 1 ≤ g ∧ GSt lb (lb + 1) (N : Int) ⟨.slice none 0 0, .int .i64 (st : Int), .slice AH n cH, .slice AN m cN, .int .i64 (b : Int), .slice AO N cO, .slice AG n cG, .slice AR i cR⟩ w' A' (coF (fun k g => noF (N : Int) TS (rsF (N : Int) TS b n lv nx i g0).1 n (lv i) (nx i) k g) b gs).2 ∧ Fr (gb lb A) w (gb lb A') w' := by
  have hK := (Blk.new w 54 #[.int .i64 (lv i : Int), .slice AX st cX])
  have hF : Fr (gb lb A) w (gb lb A) (w.alloc (.cells #[.int .i64 (lv i : Int), .slice AX st cX] 54)) := Fr.alloc _ _ _
  have hz : (w.alloc (.cells #[.int .i64 (lv i : Int), .slice AX st cX] 54)).heap.size = w.heap.size + 1 := by simp
  have hFW := hF.trans (Fr.of_below (G := gb lb A) (by rw [hz]; exact hbl))
  have hKW : Blk W w.heap.size 54 #[.int .i64 (lv i : Int), .slice AX st cX] := hK.below hbl (by omega)
  have hWsz : w.heap.size + 1 ≤ W.heap.size := by have := hbl.size; rw [hz] at this; exact this
  have hSW : GSt lb (lb + 1) (N : Int) ⟨.slice none 0 0, .int .i64 (st : Int), .slice AH n cH, .slice AN m cN, .int .i64 (b : Int), .slice AO N cO, .slice AG n cG, .slice AR i cR⟩ W A gs := by
    refine h.st_.keep (G := fun _ => False) (G' := fun _ => False) (Fr.of_below (G := fun _ => False) ?_) (fun h => h) (fun _ _ h => h)
    exact ((Below.refl _ w).alloc (Nat.le_refl _) _).trans (hbl.mono (by omega))
  have hRW := h.rows.keep h.st_ hFW (by omega)
  have hsz := h.size
  have hlow := h.low
  have hgl : gs.length ≤ 22000 := by
    have q1 := rsF_len (N : Int) TS b n lv nx g0 8 i (fun j hj => by rw [hnx j (by omega)]; exact hs8)
    rw [h.gates] at q1
    have q2 : b * (2 * 8 + 1) ≤ 3 * 17 := Nat.mul_le_mul hb3 (Nat.le_refl _)
    have q3 : i * (b * (2 * 8 + 1)) ≤ 400 * 51 := Nat.mul_le_mul (by omega) q2
    omega
  have hnA : ¬ gb lb A w.heap.size := fun e => by
    rcases e with e | e
    · omega
    · obtain ⟨c, _, ho⟩ := h.st_
      have := (ob_ge ho _ e).2
      omega
  have hAlb : ∀ k, gb lb A k → lb ≤ k := fun k hk => by
    rcases hk with hk | hk
    · omega
    · obtain ⟨c, _, ho⟩ := h.st_
      exact Nat.le_of_succ_le (ob_ge ho k hk).1
  have hLW : Below lb w2 W := hlow.trans (hFW.below hAlb (by omega))
  obtain ⟨adX, hAX, _, _⟩ := hX.2 (by omega)
  subst hAX
  have hrr := rsF_row (N : Int) TS b n lv nx g0 i
  generalize (rsF (N : Int) TS b n lv nx i g0).1 = RS at hRW hrr ⊢
  have hxl := hnx i hi
  refine (collected_any 62 #[.pointer (some ⟨lb, 0, none⟩), .pointer (some ⟨w.heap.size, 0, none⟩)] (enters_of Try.func62 (by kernel_rfl) rfl) lb (lb + 1) (N : Int) ⟨.slice none 0 0, .int .i64 (st : Int), .slice AH n cH, .slice AN m cN, .int .i64 (b : Int), .slice AO N cO, .slice AG n cG, .slice AR i cR⟩ (fun k g => noF (N : Int) TS RS n (lv i) (nx i) k g) b W A gs hSW (Nat.lt_succ_self _) (by omega) (by omega) (fun k w' A' G' hk hS hF' => ?_)).mono fun e w' ⟨g, A', he, hk, hg, hS, hf⟩ => ⟨g, A', he, hk, by omega, hS, hFW.trans hf⟩
  have hc2 := coF_len2 (fun k g => noF (N : Int) TS RS n (lv i) (nx i) k g) (2 * st + 1) (fun k g => by have := noF_len (N : Int) TS RS n (lv i) (nx i) k g; rw [hxl] at this; exact this) gs k
  have hc3 : k * (2 * st + 1) ≤ 3 * 17 := Nat.mul_le_mul (by omega) (by omega)
  have hR' := hRW.keep hSW hF' (by omega)
  have hk' : Blk w' w.heap.size 54 #[.int .i64 (lv i : Int), .slice (some adX) st cX] := hF'.blk hKW hnA
  have hL' : Below lb w2 w' := hLW.trans (hF'.below hAlb (by omega))
  have hAlb' : ∀ q, gb lb A' q → lb ≤ q := fun q hq => by
    rcases hq with hq | hq
    · omega
    · obtain ⟨c, _, ho⟩ := hS
      exact Nat.le_of_succ_le (ob_ge ho q hq).1
  have hw's : lb + 1 ≤ w'.heap.size := by have := hF'.size; omega
  generalize hgk : (coF (fun k g => noF (N : Int) TS RS n (lv i) (nx i) k g) k gs).2 = gk at hS hc2 ⊢
  have hNN : ∀ w'' G'', Fr (gb lb A') w' G'' w'' → Reads w'' w''.heap.size (some adX) (nx i).length (il (nl (nx i))) := fun w'' G'' hf => by
    have hb2 := hL'.trans (hf.below hAlb' (by omega))
    rw [hxl]
    exact (hX.below hb2).more (by have := hb2.size; omega)
  have hTT : ∀ w'' G'', Fr (gb lb A') w' G'' w'' → ∀ p, p < n → (∃ ad, AG = some ad ∧ w''.cell? (ad.add p) = some (.slice (some ⟨bl.getD p 0, 0, none⟩) (TS.getD p []).length (TS.getD p []).length)) ∧ Blk w'' (bl.getD p 0) 3 (il (TS.getD p [])).toArray := fun w'' G'' hf p hp => by
    have q := hR'.keep hS hf (by omega)
    rw [hTS p hp]
    exact ⟨rv_at q.tests hp, (q.trows p hp).1⟩
  obtain ⟨⟨adT, hAG, _⟩, _⟩ := hTT w' _ (Fr.refl _ _) 0 (by omega)
  refine ci2_any lb w.heap.size k (lv i : Int) (.slice (some adX) st cX) (noF (N : Int) TS RS n (lv i) (nx i) k gk).1 (fun w'' => ∃ A'', GSt lb (lb + 1) (N : Int) ⟨.slice none 0 0, .int .i64 (st : Int), .slice AH n cH, .slice AN m cN, .int .i64 (b : Int), .slice AO N cO, .slice AG n cG, .slice AR i cR⟩ w'' A'' (noF (N : Int) TS RS n (lv i) (nx i) k gk).2 ∧ Fr (gb lb A') w' (gb lb A'') w'') w' hk' ?_ |>.mono fun e w'' ⟨he, A'', q1, q2⟩ => ⟨A'', he, q1, q2⟩
  by_cases hl1 : lv i = 1
  · have hh := res_lo lb (lb + 1) (N : Int) ⟨.slice none 0 0, .int .i64 (st : Int), .slice AH n cH, .slice AN m cN, .int .i64 (b : Int), .slice AO N cO, .slice AG n cG, .slice AR i cR⟩ AH n cH adT n cG (n - 1) (bl.getD (n - 1) 0) (TS.getD (n - 1) []) k adX cX (nx i) w' A' gk hS (Nat.lt_succ_self _) (by omega) (by omega) (by omega) (by omega) rfl (by rw [hAG]) (by omega) (by omega) (by omega)
      (fun w'' G'' hf => by
        obtain ⟨⟨ad, e1, e2⟩, e3⟩ := hTT w'' G'' hf (n - 1) (by omega)
        rw [hAG] at e1
        injection e1 with e1
        subst e1
        exact ⟨e2, e3⟩) hNN (by rw [hTS _ (by omega), hxl]; exact Nat.le_refl _) (by omega) (h1 hl1) (by omega)
    rw [hxl] at hh
    unfold noF
    rw [if_pos hl1, hl1, hxl]
    exact hh.mono fun e w'' ⟨A'', he, q1, q2⟩ => ⟨he, A'', q1, q2⟩
  · have hi0 : 0 < i := by have := h2 (by omega) 0 (by omega); omega
    have hRR : ∀ w'' G'', Fr (gb lb A') w' G'' w'' → ∀ x, x < i → (∃ ad, AR = some ad ∧ w''.cell? (ad.add x) = some (.slice (some ⟨br.getD x 0, 0, none⟩) (RS.getD x []).length (RS.getD x []).length)) ∧ Blk w'' (br.getD x 0) 3 (il (RS.getD x [])).toArray := fun w'' G'' hf x hx => by
      have q := hR'.keep hS hf (by omega)
      rw [hrr x hx]
      exact ⟨rv_at q.res hx, (q.rrows x hx).1⟩
    obtain ⟨⟨adR, hAR, _⟩, _⟩ := hRR w' _ (Fr.refl _ _) 0 hi0
    have hh := res_hi lb (lb + 1) (N : Int) ⟨.slice none 0 0, .int .i64 (st : Int), .slice AH n cH, .slice AN m cN, .int .i64 (b : Int), .slice AO N cO, .slice AG n cG, .slice AR i cR⟩ AH n cH adT n cG (n - lv i) (bl.getD (n - lv i) 0) (lv i) (TS.getD (n - lv i) []) k adX cX (nx i) adR i cR (fun x => br.getD x 0) RS w' A' gk hS (Nat.lt_succ_self _) (by omega) (by omega) (by omega) (by omega) rfl (by rw [hAG]) (by rw [hAR]) (by omega) (by omega) (by omega) (by omega)
      (fun w'' G'' hf => by
        obtain ⟨⟨ad, e1, e2⟩, e3⟩ := hTT w'' G'' hf (n - lv i) (by omega)
        rw [hAG] at e1
        injection e1 with e1
        subst e1
        exact ⟨e2, e3⟩)
      (fun w'' G'' hf x hx => by
        obtain ⟨⟨ad, e1, e2⟩, e3⟩ := hRR w'' G'' hf x hx
        rw [hAR] at e1
        injection e1 with e1
        subst e1
        exact ⟨e2, e3⟩) hNN (by rw [hTS _ (by omega), hxl]; exact Nat.le_refl _) (by omega) (fun j hj => by
          have := h2 (by omega) j (by omega)
          exact ⟨this, by rw [hrr _ this]; exact hk⟩)
    rw [hxl] at hh
    unfold noF
    rw [if_neg hl1, hxl]
    exact hh.mono fun e w'' ⟨A'', he, q1, q2⟩ => ⟨he, A'', q1, q2⟩
/-- what a node more leaves -/
theorem node_step {lb : Nat} {w2 : World} {N n b st cH cN : Nat} {AH AN AO : Option Addr} {cO W1 : Nat} {AG : Option Addr} {cG : Nat} {bl : List Nat} {m : Nat} {TS : List (List Int)} {lv : Nat → Nat} {nx : Nat → List Nat} {g0 : List C3} {i : Nat} {AR : Option Addr} {cR : Nat} {br : List Nat} {A A' : Option Addr} {gs : List C3} {w wa w5 : World} {g g' c' : Nat}
    (h : rsB lb w2 N n b st cH cN AH AN AO cO W1 AG cG bl m TS lv nx g0 i AR cR br A gs w) (hW1 : lb + 1 ≤ W1)
    (hk : Blk wa g 3 (il (coF (fun k g => noF (N : Int) TS (rsF (N : Int) TS b n lv nx i g0).1 n (lv i) (nx i) k g) b gs).1).toArray) (hg : w.heap.size + 1 ≤ g)
    (hS : GSt lb (lb + 1) (N : Int) ⟨.slice none 0 0, .int .i64 (st : Int), .slice AH n cH, .slice AN m cN, .int .i64 (b : Int), .slice AO N cO, .slice AG n cG, .slice AR i cR⟩ wa A' (coF (fun k g => noF (N : Int) TS (rsF (N : Int) TS b n lv nx i g0).1 n (lv i) (nx i) k g) b gs).2) (hf : Fr (gb lb A) w (gb lb A') wa)
    (hown : w5.ownsRow W1 26 1 (.slice (some ⟨g', 0, none⟩) (i + 1) c') (i + 1) (rv b br ++ [.slice (some ⟨g, 0, none⟩) b b])) (F8 : Fr (ob AR) wa (ob (some ⟨g', 0, none⟩)) w5) :
    rsB lb w2 N n b st cH cN AH AN AO cO W1 AG cG bl m TS lv nx g0 (i + 1) (some ⟨g', 0, none⟩) c' (br ++ [g]) A' (coF (fun k g => noF (N : Int) TS (rsF (N : Int) TS b n lv nx i g0).1 n (lv i) (nx i) k g) b gs).2 (w5.setCell ⟨lb, 9, none⟩ (.slice (some ⟨g', 0, none⟩) (i + 1) c')) := by
  have hsz := h.size
  have hwa := hf.size
  have RA := h.rows.keep h.st_ hf (by omega)
  have hlG : ¬ ob AR lb := fun e => by have := (ob_ge RA.res _ e).1; omega
  have S5 := hS.keep F8 hlG (fun k hA e => by
    obtain ⟨c, _, ho⟩ := hS
    exact own_ne2 ho RA.res (by decide) (ob_own.1 hA) (ob_own.1 e))
  have hT5 := F8.row RA.tests (fun k hk e => by
    have q1 := h.tl k (ob_own.2 hk)
    have q2 := (ob_ge RA.res _ e).1
    omega)
  have hbl : br.length = i := by have := h.rows.res.1; simpa [rv] using this
  obtain ⟨q1, q2⟩ := getD_app br g 0 i i hbl
  have hrl := rsF_rows (N : Int) TS b n lv nx g0 i
  have hlow : ∀ k, gb lb A k → lb ≤ k := fun k hk => by
    rcases hk with hk | hk
    · omega
    · obtain ⟨c, _, ho⟩ := h.st_
      exact Nat.le_of_succ_le (ob_ge ho k hk).1
  refine ⟨by rw [rsF, h.gates], S5.seth (Nat.lt_succ_self _) _, ⟨S5.rowSet (Nat.lt_succ_self _) hT5 9 _, fun p hp => ⟨(F8.blk (RA.trows p hp).1 (fun e => own_ob_ne RA.res (RA.trows p hp).1 (by decide) e)).far (by show bl.getD p 0 ≠ lb; have := (RA.trows p hp).2; omega) _, (RA.trows p hp).2⟩, ?_, fun p hp => ?_⟩, h.tl, ?_, ?_⟩
  · rw [show rv b (br ++ [g]) = rv b br ++ [.slice (some ⟨g, 0, none⟩) b b] by simp [rv]]
    exact own_set hown (fun e => by have := (hown.lt _ e).1; simp at this; omega) _
  · rw [rsF, h.gates]
    simp only
    by_cases hpi : p < i
    · rw [(getD_app br g 0 p i hbl).1 hpi, (getD_app _ _ [] p i hrl).1 hpi]
      obtain ⟨hb, hw0⟩ := RA.rrows p hpi
      exact ⟨(F8.blk hb (fun e => own_ob_ne RA.res hb (by decide) e)).far (by show br.getD p 0 ≠ lb; omega) _, hw0⟩
    · obtain rfl : p = i := by omega
      rw [q2, (getD_app _ _ [] p p hrl).2]
      exact ⟨(F8.blk hk (fun e => own_ob_ne RA.res hk (by decide) e)).far (by show g ≠ lb; omega) _, by omega⟩
  · exact (h.low.trans ((hf.below (B := lb) hlow (by omega)).trans (F8.below (B := lb) (fun k hk => by have := (ob_ge RA.res k hk).1; omega) (by omega)))).setCell (p := ⟨lb, 9, none⟩) (Nat.le_refl _) _
  · have := F8.size
    simp [World.setCell]
    omega
theorem Blk.tri {w : World} {g : Nat} {t : TypeId} {x y z : Value} (h : Blk w g t #[x, y, z]) (a b c : Value) : Blk (((w.setCell ⟨g, 0, none⟩ a).setCell ⟨g, 1, none⟩ b).setCell ⟨g, 2, none⟩ c) g t #[a, b, c] :=
  ((h.set_ 0 a).set_ 1 b).set_ 2 c
theorem cg_at : ∀ (gs : List C3) (k : Nat), k < gs.length → (cg gs)[k * 3]? = some (.int .i64 (gs.getD k (0, 0, 0)).1) ∧ (cg gs)[k * 3 + 1]? = some (.int .i64 (gs.getD k (0, 0, 0)).2.1) ∧ (cg gs)[k * 3 + 2]? = some (.int .i64 (gs.getD k (0, 0, 0)).2.2)
  | [], _, h => absurd h (Nat.not_lt_zero _)
  | x :: r, 0, _ => by simp [cg]
  | x :: r, k + 1, h => by
    have h1 := cg_at r k (by simpa using h)
    have e : cg (x :: r) = .int .i64 x.1 :: .int .i64 x.2.1 :: .int .i64 x.2.2 :: cg r := by simp [cg]
    rw [e, show (k + 1) * 3 = k * 3 + 1 + 1 + 1 by omega]
    simpa using h1
/-- gates of a row, read -/
theorem creads_cg {w : World} {base : Nat} {e : TypeId} {A : Option Addr} {c : Nat} {gs : List C3} (h : w.ownsRow base e 3 (.slice A gs.length c) gs.length (cg gs)) : CReads w w.heap.size A gs.length (fun k => gs.getD k (0, 0, 0)) := fun hn => by
  obtain ⟨g, cap, hv, _, hg⟩ := h.form (by omega)
  injection hv with h1 _ h3
  subst h1 h3
  refine ⟨g, 0, rfl, (h.lt g rfl).2, fun k hk => ?_⟩
  obtain ⟨c1, c2, c3⟩ := cg_at gs k hk
  have hl := cg_len gs
  simp only [Nat.zero_add]
  refine ⟨?_, ?_, ?_⟩
  · rw [h.cellAt (k * 3) (by omega), c1]
  · rw [h.cellAt (k * 3 + 1) (by omega), c2]
  · rw [h.cellAt (k * 3 + 2) (by omega), c3]
theorem tsF_row (I : Int) (nots : List Int) (b st : Nat) (gs : List C3) : ∀ i p, p < i → ((tsF I nots b st i gs).1.getD p []).length = st
  | 0, _, h => absurd h (Nat.not_lt_zero _)
  | i + 1, p, h => by
    have hl := tsF_rows I nots b st gs i
    rw [tsF]
    simp only
    by_cases hp : p < i
    · rw [(getD_app _ _ [] p i hl).1 hp]
      exact tsF_row I nots b st gs i p hp
    · obtain rfl : p = i := by omega
      rw [(getD_app _ _ [] p p hl).2]
      exact coF_len _ _ _
end Go.Proofs.Ytnhkgkpjkgifoaa
