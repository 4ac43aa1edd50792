/- The walk of changed, for what Fix and Map make of a node's two elements. -/
import Derived.Test.YthgnjjpkmikokaaDoorBar
namespace Go.Proofs.YthgnjjpkmikokaaDoor
open Go.RowKit

/-- the elements of the nodes when the first i are changed -/
def nxC (lv : Nat → Int) (nx : Nat → List Int) (level : Int) (ch : List Int → List Int) (i : Nat) : Nat → List Int := fun k => if k < i ∧ lv k = level then ch (nx k) else nx k
theorem nxC_zero (lv : Nat → Int) (nx : Nat → List Int) (level : Int) (ch : List Int → List Int) : nxC lv nx level ch 0 = nx := by funext k; simp [nxC]
theorem nxC_here (lv : Nat → Int) (nx : Nat → List Int) (level : Int) (ch : List Int → List Int) (i : Nat) : nxC lv nx level ch i i = nx i := by simp [nxC]
theorem nxC_no {lv : Nat → Int} {nx : Nat → List Int} {level : Int} {ch : List Int → List Int} {i : Nat} (h : lv i ≠ level) : nxC lv nx level ch (i + 1) = nxC lv nx level ch i := by
  funext k
  unfold nxC
  by_cases e : k = i
  · subst e; simp [h]
  · have : k < i + 1 ↔ k < i := by omega
    simp only [this]
theorem nxC_yes {lv : Nat → Int} {nx : Nat → List Int} {level : Int} {ch : List Int → List Int} {i : Nat} (h : lv i = level) : nxC lv nx level ch (i + 1) = fun k => if k = i then ch (nx i) else nxC lv nx level ch i k := by
  funext k
  unfold nxC
  by_cases e : k = i
  · subst e; simp [h]
  · have : k < i + 1 ↔ k < i := by omega
    simp only [this, if_neg e]
/-- one row is set -/
theorem Inn.set {w w' : World} {G : Nat → Prop} {i m : Nat} {cur : Array Value} {lv : Nat → Int} {nx : Nat → List Int} {A : Option Addr} {c : Nat} {e : List Int} (h : Inn w G cur.toList m lv nx) (hs : w.heap.size ≤ w'.heap.size) (hb : ∀ b, b < w.heap.size → ¬ G b → w'.heap[b]? = w.heap[b]?) (hi : i * 2 + 1 < cur.size)
    (hr : Reads w' w'.heap.size A e.length (il e)) (hA : ∀ ad, A = some ad → ¬ G ad.block) : Inn w' G (cur.setIfInBounds (i * 2 + 1) (.slice A e.length c)).toList m lv (fun k => if k = i then e else nx k) := by
  have h2 := h.far (G' := G) hs hb (fun _ _ x => x)
  intro k hk
  by_cases ek : k = i
  · subst ek
    obtain ⟨A', c', h3, h4, h5, h6⟩ := h2 k hk
    refine ⟨A, c, ?_, ?_, ?_, ?_⟩
    · rw [Array.toList_setIfInBounds, List.getElem?_set_ne (by omega)]; exact h3
    · simp only [if_true]
      rw [Array.toList_setIfInBounds, List.getElem?_set_self (by simpa using hi)]
    · simp only [if_true]; exact hr
    · intro _ ad ea; exact hA ad ea
  · obtain ⟨A', c', h3, h4, h5, h6⟩ := h2 k hk
    simp only [if_neg ek]
    refine ⟨A', c', ?_, ?_, h5, h6⟩
    · rw [Array.toList_setIfInBounds, List.getElem?_set_ne (by omega)]; exact h3
    · rw [Array.toList_setIfInBounds, List.getElem?_set_ne (by omega)]; exact h4
theorem NR.of_blk {w : World} {g m : Nat} {t : TypeId} {cur : Array Value} {lv : Nat → Int} {nx : Nat → List Int} {G : Nat → Prop} (h : Blk w g t cur) (hi : Inn w G cur.toList m lv nx) : NR w w.heap.size (some ⟨g, 0, none⟩) m lv nx := fun _ => by
  refine ⟨g, 0, rfl, h.lt, fun k hk => ?_⟩
  obtain ⟨A', c', h1, h2, h3, _⟩ := hi k hk
  refine ⟨A', c', ?_, ?_, h3⟩
  · rw [Nat.zero_add, h.cell, ← Array.getElem?_toList, h1]
  · rw [Nat.zero_add, h.cell, ← Array.getElem?_toList, h2]
theorem two_list {l : List Int} (h : l.length = 2) : [ig l 0, ig l 1] = l := by
  match l, h with
  | [a, b], _ => rfl
theorem two_reads {w : World} {g : Nat} {t : TypeId} {a b : Int} (h : Blk w g t #[.int .i64 a, .int .i64 b]) : Reads w w.heap.size (some ⟨g, 0, none⟩) 2 (il [a, b]) := by
  refine ⟨rfl, fun _ => ⟨_, rfl, h.lt, fun j u hj => ?_⟩⟩
  rw [addr_add, Nat.zero_add, h.cell]
  rw [← hj]
  simp [il]

set_option maxRecDepth 100000 in
set_option maxHeartbeats 16000000 in
theorem changedFix_any {w : World} {AH AN : Option Addr} {n m cH cN : Nat} {st level : Int} {lv : Nat → Int} {nx : Nat → List Int} {ch : List Int → List Int} {gb : Nat} (hN : NR w w.heap.size AN m lv nx) (hm : 1 ≤ m) (hm' : m ≤ 5000) (h2 : ∀ k, k < m → (nx k).length = 2) (hch : ∀ l, l.length = 2 → (ch l).length = 2)
    (hcap : ∀ g o, AN = some ⟨g, o, none⟩ → ∀ k, k < m → ∀ A n c, w.cell? ⟨g, o + (k * 2 + 1), none⟩ = some (.slice A n c) → n ≤ c ∧ c ≤ maxLen)
    (hC : ∀ w' A c k, Below w.heap.size w w' → k < m → lv k = level → Reads w' w'.heap.size A 2 (il (nx k)) → 2 ≤ c → c ≤ maxLen → Calls Tryd.prog 40 #[.slice A 2 c, .pointer (some ⟨gb, 0, none⟩)] w' fun e w'' => e = .returned (.slice (some ⟨w'.heap.size, 0, none⟩) 2 2) ∧ Blk w'' w'.heap.size 3 #[.int .i64 (ig (ch (nx k)) 0), .int .i64 (ig (ch (nx k)) 1)] ∧ Below w'.heap.size w' w'') :
    Calls Tryd.prog 42 #[.agg #[.int .i64 st, .slice AH n cH, .slice AN m cN], .int .i64 level, .func (.func 40) #[] #[.pointer (some ⟨gb, 0, none⟩)]] w fun e w' => ∃ g c, e = .returned (.agg #[.int .i64 st, .slice AH n cH, .slice (some ⟨g, 0, none⟩) m c]) ∧ NR w' w'.heap.size (some ⟨g, 0, none⟩) m lv (nxC lv nx level ch m) ∧ Below w.heap.size w w' := by
  have CL := Lib.hid (fun w' (hb : Below w.heap.size w w') => (nclone_any (cN := cN) (hN.later hb) hm hm'))
  have HC := Lib.hid hC
  have H2 := Lib.hid h2
  have HCH := Lib.hid hch
  have HCAP := Lib.hid hcap
  have HNN := Lib.hid hN
  clear hN hC h2 hch hcap
  go_enter Tryd.func42, Tryd.ntmps42
  have Z1 := Lib.hid ((Below.refl w.heap.size w).alloc (Nat.le_refl _) (.cells #[.int .i64 st, .slice AH n cH, .slice AN m cN] 25))
  have Z2 := Lib.hid (Z1.out.alloc Z1.out.size (.cells #[.int .i64 0, .slice none 0 0, .slice none 0 0] 25))
  have KT := Lib.hid ((Blk.new w 25 #[.int .i64 st, .slice AH n cH, .slice AN m cN]).alloc (.cells #[.int .i64 0, .slice none 0 0, .slice none 0 0] 25))
  have KR := Blk.new (w.alloc (.cells #[.int .i64 st, .slice AH n cH, .slice AN m cN] 25)) 25 #[.int .i64 0, .slice none 0 0, .slice none 0 0]
  simp only [World.size_alloc] at KR
  have KR := Lib.hid KR
  obtain ⟨t0, t1, t2, t3⟩ := KT.out.three
  obtain ⟨r0, r1, r2, r3⟩ := KR.out.three
  go_wp2_with (go_at_call 68; (with_reducible refine (CL.out _ Z2.out).mono ?_); rintro e w1 ⟨g, c, cur, rfl, hg, hk, hin, hcp, hb⟩; have B1 := Lib.hid (Z2.out.trans (hb.mono Z2.out.size)); have KT1 := Lib.hid (KT.out.below hb KT.out.lt); have KR1 := Lib.hid (KR.out.below hb KR.out.lt); have KG1 := Lib.hid hk; have HIN := Lib.hid hin; have HCP := Lib.hid hcp; have HG := Lib.hid hg; clear hb hk hin hcp hg; obtain ⟨u0, u1, u2, u3, u4, u5, u6⟩ := KT1.out.three6)
  have hg2 : w.heap.size + 1 + 1 ≤ g := by have := HG.out; simpa using this
  have KT2 := Lib.hid (show Blk (w1.setCell ⟨w.heap.size, 2, none⟩ (.slice (some ⟨g, 0, none⟩) m c)) w.heap.size 25 #[.int .i64 st, .slice AH n cH, .slice (some ⟨g, 0, none⟩) m c] from by simpa using KT1.out.set_ 2 (.slice (some ⟨g, 0, none⟩) m c))
  have KR2 := Lib.hid (KR1.out.far (p := ⟨w.heap.size, 2, none⟩) (by show w.heap.size + 1 ≠ w.heap.size; omega) (.slice (some ⟨g, 0, none⟩) m c))
  have KG2 := Lib.hid (KG1.out.far (p := ⟨w.heap.size, 2, none⟩) (by show g ≠ w.heap.size; omega) (.slice (some ⟨g, 0, none⟩) m c))
  have B2 := Lib.hid (B1.out.setCell (p := ⟨w.heap.size, 2, none⟩) (Nat.le_refl _) (.slice (some ⟨g, 0, none⟩) m c))
  have hszs : (w1.setCell ⟨w.heap.size, 2, none⟩ (.slice (some ⟨g, 0, none⟩) m c)).heap.size = w1.heap.size := by simp [World.setCell]
  have IN2 := Lib.hid (show Inn (w1.setCell ⟨w.heap.size, 2, none⟩ (.slice (some ⟨g, 0, none⟩) m c)) (fun b => b = g ∨ b = w.heap.size + 1) cur.toList m lv nx from fun k hk => by
    obtain ⟨gA, oA, eA, hgA, hcA⟩ := HNN.out (by omega)
    obtain ⟨A', c', i1, i2, i3, i4⟩ := HIN.out k hk
    obtain ⟨A2, c2, j1, j2, j3⟩ := hcA k hk
    have e5 : cur.toList[k * 2 + 1]? = some (.slice A2 (nx k).length c2) := by
      rw [HCP.out gA oA eA k hk]
      rw [Z2.out.cell (p := ⟨gA, _, none⟩) hgA, ← Nat.add_assoc]
      exact j2
    rw [i2] at e5
    simp only [Option.some.injEq, Value.slice.injEq] at e5
    obtain ⟨rfl, -, -⟩ := e5
    refine ⟨A', c', i1, i2, (j3.below B2.out).more B2.out.size, fun hn ad ea hag => ?_⟩
    obtain ⟨ad', e', hlt, _⟩ := j3.2 hn
    rw [ea] at e'
    injection e' with e'
    subst e'
    omega)
  have CP2 := Lib.hid (show ∀ k, k < m → ∀ A n c, cur.toList[k * 2 + 1]? = some (.slice A n c) → n ≤ c ∧ c ≤ maxLen from fun k hk A n c hc => by
    obtain ⟨gA, oA, eA, hgA, hcA⟩ := HNN.out (by omega)
    rw [HCP.out gA oA eA k hk, Z2.out.cell (p := ⟨gA, _, none⟩) hgA] at hc
    exact HCAP.out gA oA eA k hk A n c hc)
  clear t0 t1 t2 t3 r0 r1 r2 r3 u0 u1 u2 u3 u4 u5 u6
  generalize w1.setCell ⟨w.heap.size, 2, none⟩ (.slice (some ⟨g, 0, none⟩) m c) = ws at *
  go_loopw [16] (fun iv wr => ∃ (i : Nat) (cu : Array Value), i ≤ m ∧ iv = .int .i64 (i : Int) ∧ Blk wr g 44 cu ∧ Inn wr (fun b => b = g ∨ b = w.heap.size + 1) cu.toList m lv (nxC lv nx level ch i) ∧ (∀ k, i ≤ k → cu.toList[k * 2 + 1]? = cur.toList[k * 2 + 1]?) ∧ Blk wr w.heap.size 25 #[.int .i64 st, .slice AH n cH, .slice (some ⟨g, 0, none⟩) m c] ∧ Blk wr (w.heap.size + 1) 25 #[.int .i64 0, .slice none 0 0, .slice none 0 0] ∧ Below w.heap.size w wr) (fun iv _ => m - (intOf iv).toNat)
  case atStart =>
    exact ⟨0, cur, Nat.zero_le _, rfl, KG2.out, by rw [nxC_zero]; exact IN2.out, fun k _ => rfl, KT2.out, KR2.out, B2.out⟩
  case round =>
    obtain ⟨i, cu, hi, rfl, hkg, hin, hsm, hkt, hkr, hbr⟩ := hrel
    obtain ⟨wo, rfl⟩ : ∃ wo, wo = wr := ⟨wr, rfl⟩
    have KG := Lib.hid hkg
    have IN := Lib.hid hin
    have SM := Lib.hid hsm
    have KTr := Lib.hid hkt
    have KRr := Lib.hid hkr
    have BR := Lib.hid hbr
    obtain ⟨s0, s1, s2, s3⟩ := hkt.three
    have hgl := hkg.lt
    clear hkg hin hsm hkt hkr hbr
    by_cases hlt : i < m
    · have d1 : decide ((i : Int) < (m : Int)) = true := by rw [decide_eq_true_iff]; omega
      obtain ⟨A', c', i1, i2, i3, i4⟩ := IN.out i hlt
      have h22 := H2.out i hlt
      rw [nxC_here, h22] at i2 i3 i4
      have c1 : wo.cell? ⟨g, i * 2, none⟩ = some (.int .i64 (lv i)) := by rw [KG.out.cell, ← Array.getElem?_toList]; exact i1
      have c2 : wo.cell? ⟨g, i * 2 + 1, none⟩ = some (.slice A' 2 c') := by rw [KG.out.cell, ← Array.getElem?_toList]; exact i2
      have hc' := CP2.out i hlt A' 2 c' (by rw [← SM.out i (Nat.le_refl _)]; exact i2)
      have f2 := KG.out.frozen (i * 2 + 1)
      have hcs : i * 2 + 1 < cu.size := by
        rcases Nat.lt_or_ge (i * 2 + 1) cu.size with q | q
        · exact q
        · rw [List.getElem?_eq_none (by simpa using q)] at i2; cases i2
      have I3 := Lib.hid i3
      have I4 := Lib.hid i4
      have HCC := Lib.hid hc'
      have H22 := Lib.hid h22
      have HCS := Lib.hid hcs
      have CU2 := Lib.hid (show cu[i * 2 + 1]? = some (.slice A' 2 c') from by rw [← Array.getElem?_toList]; exact i2)
      clear i1 i2 i3 i4 hc' h22 hcs
      by_cases hl : lv i = level
      · have HL := Lib.hid hl
        subst hl
        generalize hvl : lv i = l at c1
        have HVL := Lib.hid hvl
        clear hvl
        have BA := Lib.hid ((Below.refl wo.heap.size wo).alloc (Nat.le_refl _) (.cells #[.int .i64 l, .slice A' 2 c'] 44))
        have KN := Lib.hid (Blk.new wo 44 #[.int .i64 l, .slice A' 2 c'])
        have s2' := (World.cell?_alloc_lt wo (.cells #[.int .i64 l, .slice A' 2 c'] 44) ⟨w.heap.size, 2, none⟩ s3).trans s2
        obtain ⟨n0, n1, n2, n3, n4⟩ := KN.out.two
        go_wp2_with fail
        have HRW := Lib.hid (show Reads (wo.alloc (.cells #[.int .i64 l, .slice A' 2 c'] 44)) (wo.alloc (.cells #[.int .i64 l, .slice A' 2 c'] 44)).heap.size A' 2 (il (nx i)) from (I3.out.below BA.out).more BA.out.size)
        have hal : (wo.alloc (.cells #[.int .i64 l, .slice A' 2 c'] 44)).heap.size = wo.heap.size + 1 := by simp only [World.size_alloc]
        have HAL := Lib.hid hal
        have KGa := Lib.hid (KG.out.alloc (.cells #[.int .i64 l, .slice A' 2 c'] 44))
        have KTa := Lib.hid (KTr.out.alloc (.cells #[.int .i64 l, .slice A' 2 c'] 44))
        have KRa := Lib.hid (KRr.out.alloc (.cells #[.int .i64 l, .slice A' 2 c'] 44))
        have BRa := Lib.hid (BR.out.trans (BA.out.mono BR.out.size))
        have INa := Lib.hid (IN.out.below BA.out)
        have SS : (wo.alloc (.cells #[.int .i64 l, .slice A' 2 c'] 44)).drew.cell? ⟨w.heap.size, 2, none⟩ = some (.slice (some ⟨g, 0, none⟩) m c) ∧ (wo.alloc (.cells #[.int .i64 l, .slice A' 2 c'] 44)).drew.cell? ⟨wo.heap.size, 1, none⟩ = some (.slice A' 2 c') := ⟨s2', n1⟩
        clear s0 s1 s2 s2' n0 n1 n2 n3 n4 c1 c2 f2 hal
        generalize wo.alloc (.cells #[.int .i64 l, .slice A' 2 c'] 44) = wa at *
        have CC := Lib.hid (HC.out wa.drew A' c' i BRa.out.drew hlt rfl HRW.out HCC.out.1 HCC.out.2)
        obtain ⟨SS1, SS2⟩ := SS
        have hne1 : w.heap.size ≠ g := by omega
        have hne2 : wo.heap.size ≠ g := by omega
        go_region_with (go_at_call 40; go_loud ((with_reducible refine CC.out.mono ?_); rintro e w4 ⟨rfl, hk4, hb4⟩; have K4 := Lib.hid hk4; have B4 := Lib.hid hb4; have KG4 := Lib.hid (KGa.out.drew.below hb4 KGa.out.lt); have KT4 := Lib.hid (KTa.out.drew.below hb4 KTa.out.lt); have q1 := KT4.out.three.2.2.1; have f4 := KG4.out.frozen (i * 2 + 1); have g4 := (KG4.out.cell (i * 2 + 1)).trans CU2.out; clear hk4 hb4))
        all_goals
          go_wp2_with fail
          have he : (ch (nx i)).length = 2 := HCH.out _ H22.out
          have hws : wo.heap.size < wa.heap.size := by have := HAL.out; omega
          have B5 : Below wa.heap.size wa w4 := ⟨B4.out.os, B4.out.tape, B4.out.output, B4.out.size, B4.out.block⟩
          have hs4 : w4.heap.size = (w4.setCell ⟨g, i * 2 + 1, none⟩ (.slice (some ⟨wa.heap.size, 0, none⟩) 2 2)).heap.size := by simp [World.setCell]
          have K5 := K4.out.far (p := ⟨g, i * 2 + 1, none⟩) (by show wa.heap.size ≠ g; omega) (.slice (some ⟨wa.heap.size, 0, none⟩) 2 2)
          have hr := two_reads K5
          rw [two_list he] at hr
          have hI := INa.out.set (c := 2) (e := ch (nx i)) (A := some ⟨wa.heap.size, 0, none⟩) (by rw [← hs4]; exact B5.size) (fun b hb hn => (Below.heap_setCell w4 _ _ b (by show b ≠ g; omega)).trans (B5.block b hb)) HCS.out (by rw [he]; exact hr) (fun ad ea => by injection ea with ea; subst ea; show ¬ (wa.heap.size = g ∨ wa.heap.size = w.heap.size + 1); omega)
          rw [he] at hI
          have KR5 := (KRa.out.below B5 KRa.out.lt).far (p := ⟨g, i * 2 + 1, none⟩) (by show w.heap.size + 1 ≠ g; omega) (.slice (some ⟨wa.heap.size, 0, none⟩) 2 2)
          have BR5 := (BRa.out.trans (B5.mono BRa.out.size)).setCell (p := ⟨g, i * 2 + 1, none⟩) (by show w.heap.size ≤ g; omega) (.slice (some ⟨wa.heap.size, 0, none⟩) 2 2)
          exact ⟨⟨i + 1, _, by omega, by go_num, KG4.out.set_ _ _, by rw [nxC_yes HVL.out]; first | exact hI | (rw [HVL.out] at hI; exact hI), fun k hk => by rw [Array.toList_setIfInBounds, List.getElem?_set_ne (by omega)]; exact SM.out k (by omega), KT4.out.far (p := ⟨g, i * 2 + 1, none⟩) hne1 _, KR5, BR5⟩, by simp [intOf]; omega⟩
      · have NX := Lib.hid (nxC_no (nx := nx) (ch := ch) hl)
        have d2 : decide (lv i = level) = false := by rw [decide_eq_false_iff_not]; exact hl
        have d3 : (lv i == level) = false := by simpa using hl
        generalize hvl : lv i = l at c1 d2 d3 hl
        have HVL := Lib.hid hvl
        clear hvl
        go_wp2
        have BA := (Below.refl wo.heap.size wo).alloc (Nat.le_refl _) (.cells #[.int .i64 l, .slice A' 2 c'] 44)
        exact ⟨⟨i + 1, cu, by omega, by go_num, KG.out.alloc _, by rw [NX.out]; exact IN.out.below BA, fun k hk => SM.out k (by omega), KTr.out.alloc _, KRr.out.alloc _, BR.out.alloc BR.out.size _⟩, by simp [intOf]; omega⟩
    · obtain rfl : i = m := by omega
      have d1 : decide ((i : Int) < (i : Int)) = false := by rw [decide_eq_false_iff_not]; omega
      obtain ⟨r0, r1, r2, r3, r4, r5, r6⟩ := KRr.out.three6
      go_wp2
      have FZ := set3_fr wo (w.heap.size + 1) (.int .i64 st) (.slice AH n cH) (.slice (some ⟨g, 0, none⟩) i c)
      have KZ : Blk (((wo.setCell ⟨w.heap.size + 1, 0, none⟩ (.int .i64 st)).setCell ⟨w.heap.size + 1, 1, none⟩ (.slice AH n cH)).setCell ⟨w.heap.size + 1, 2, none⟩ (.slice (some ⟨g, 0, none⟩) i c)) (w.heap.size + 1) 25 #[.int .i64 st, .slice AH n cH, .slice (some ⟨g, 0, none⟩) i c] := by simpa using ((KRr.out.set_ 0 (.int .i64 st)).set_ 1 (.slice AH n cH)).set_ 2 (.slice (some ⟨g, 0, none⟩) i c)
      obtain ⟨y0, y1, y2, y3⟩ := KZ.three
      exact bodyPost_ret (v := .agg #[.int .i64 st, .slice AH n cH, .slice (some ⟨g, 0, none⟩) i c]) (by simp [results, Tryd.results42, go_sem, y0, y1, y2]) rfl ⟨g, c, rfl, NR.of_blk (FZ.blk KG.out (by omega)) (IN.out.far (G' := fun b => b = g ∨ b = w.heap.size + 1) FZ.size (fun b hb hn => FZ.block b hb (by omega)) (fun _ _ x => x)), BR.out.trans (FZ.below (fun k hk => by omega) BR.out.size)⟩

set_option maxRecDepth 100000 in
set_option maxHeartbeats 16000000 in
theorem changedMap_any {w : World} {AH AN : Option Addr} {n m cH cN : Nat} {st level : Int} {lv : Nat → Int} {nx : Nat → List Int} {ch : List Int → List Int} {gb : Nat} (hN : NR w w.heap.size AN m lv nx) (hm : 1 ≤ m) (hm' : m ≤ 5000) (h2 : ∀ k, k < m → (nx k).length = 2) (hch : ∀ l, l.length = 2 → (ch l).length = 2)
    (hcap : ∀ g o, AN = some ⟨g, o, none⟩ → ∀ k, k < m → ∀ A n c, w.cell? ⟨g, o + (k * 2 + 1), none⟩ = some (.slice A n c) → n ≤ c ∧ c ≤ maxLen)
    (hC : ∀ w' A c k, Below w.heap.size w w' → k < m → lv k = level → Reads w' w'.heap.size A 2 (il (nx k)) → 2 ≤ c → c ≤ maxLen → Calls Tryd.prog 44 #[.slice A 2 c, .pointer (some ⟨gb, 0, none⟩)] w' fun e w'' => e = .returned (.slice (some ⟨w'.heap.size, 0, none⟩) 2 2) ∧ Blk w'' w'.heap.size 3 #[.int .i64 (ig (ch (nx k)) 0), .int .i64 (ig (ch (nx k)) 1)] ∧ Below w'.heap.size w' w'') :
    Calls Tryd.prog 42 #[.agg #[.int .i64 st, .slice AH n cH, .slice AN m cN], .int .i64 level, .func (.func 44) #[] #[.pointer (some ⟨gb, 0, none⟩)]] w fun e w' => ∃ g c, e = .returned (.agg #[.int .i64 st, .slice AH n cH, .slice (some ⟨g, 0, none⟩) m c]) ∧ NR w' w'.heap.size (some ⟨g, 0, none⟩) m lv (nxC lv nx level ch m) ∧ Below w.heap.size w w' := by
  have CL := Lib.hid (fun w' (hb : Below w.heap.size w w') => (nclone_any (cN := cN) (hN.later hb) hm hm'))
  have HC := Lib.hid hC
  have H2 := Lib.hid h2
  have HCH := Lib.hid hch
  have HCAP := Lib.hid hcap
  have HNN := Lib.hid hN
  clear hN hC h2 hch hcap
  go_enter Tryd.func42, Tryd.ntmps42
  have Z1 := Lib.hid ((Below.refl w.heap.size w).alloc (Nat.le_refl _) (.cells #[.int .i64 st, .slice AH n cH, .slice AN m cN] 25))
  have Z2 := Lib.hid (Z1.out.alloc Z1.out.size (.cells #[.int .i64 0, .slice none 0 0, .slice none 0 0] 25))
  have KT := Lib.hid ((Blk.new w 25 #[.int .i64 st, .slice AH n cH, .slice AN m cN]).alloc (.cells #[.int .i64 0, .slice none 0 0, .slice none 0 0] 25))
  have KR := Blk.new (w.alloc (.cells #[.int .i64 st, .slice AH n cH, .slice AN m cN] 25)) 25 #[.int .i64 0, .slice none 0 0, .slice none 0 0]
  simp only [World.size_alloc] at KR
  have KR := Lib.hid KR
  obtain ⟨t0, t1, t2, t3⟩ := KT.out.three
  obtain ⟨r0, r1, r2, r3⟩ := KR.out.three
  go_wp2_with (go_at_call 68; (with_reducible refine (CL.out _ Z2.out).mono ?_); rintro e w1 ⟨g, c, cur, rfl, hg, hk, hin, hcp, hb⟩; have B1 := Lib.hid (Z2.out.trans (hb.mono Z2.out.size)); have KT1 := Lib.hid (KT.out.below hb KT.out.lt); have KR1 := Lib.hid (KR.out.below hb KR.out.lt); have KG1 := Lib.hid hk; have HIN := Lib.hid hin; have HCP := Lib.hid hcp; have HG := Lib.hid hg; clear hb hk hin hcp hg; obtain ⟨u0, u1, u2, u3, u4, u5, u6⟩ := KT1.out.three6)
  have hg2 : w.heap.size + 1 + 1 ≤ g := by have := HG.out; simpa using this
  have KT2 := Lib.hid (show Blk (w1.setCell ⟨w.heap.size, 2, none⟩ (.slice (some ⟨g, 0, none⟩) m c)) w.heap.size 25 #[.int .i64 st, .slice AH n cH, .slice (some ⟨g, 0, none⟩) m c] from by simpa using KT1.out.set_ 2 (.slice (some ⟨g, 0, none⟩) m c))
  have KR2 := Lib.hid (KR1.out.far (p := ⟨w.heap.size, 2, none⟩) (by show w.heap.size + 1 ≠ w.heap.size; omega) (.slice (some ⟨g, 0, none⟩) m c))
  have KG2 := Lib.hid (KG1.out.far (p := ⟨w.heap.size, 2, none⟩) (by show g ≠ w.heap.size; omega) (.slice (some ⟨g, 0, none⟩) m c))
  have B2 := Lib.hid (B1.out.setCell (p := ⟨w.heap.size, 2, none⟩) (Nat.le_refl _) (.slice (some ⟨g, 0, none⟩) m c))
  have hszs : (w1.setCell ⟨w.heap.size, 2, none⟩ (.slice (some ⟨g, 0, none⟩) m c)).heap.size = w1.heap.size := by simp [World.setCell]
  have IN2 := Lib.hid (show Inn (w1.setCell ⟨w.heap.size, 2, none⟩ (.slice (some ⟨g, 0, none⟩) m c)) (fun b => b = g ∨ b = w.heap.size + 1) cur.toList m lv nx from fun k hk => by
    obtain ⟨gA, oA, eA, hgA, hcA⟩ := HNN.out (by omega)
    obtain ⟨A', c', i1, i2, i3, i4⟩ := HIN.out k hk
    obtain ⟨A2, c2, j1, j2, j3⟩ := hcA k hk
    have e5 : cur.toList[k * 2 + 1]? = some (.slice A2 (nx k).length c2) := by
      rw [HCP.out gA oA eA k hk]
      rw [Z2.out.cell (p := ⟨gA, _, none⟩) hgA, ← Nat.add_assoc]
      exact j2
    rw [i2] at e5
    simp only [Option.some.injEq, Value.slice.injEq] at e5
    obtain ⟨rfl, -, -⟩ := e5
    refine ⟨A', c', i1, i2, (j3.below B2.out).more B2.out.size, fun hn ad ea hag => ?_⟩
    obtain ⟨ad', e', hlt, _⟩ := j3.2 hn
    rw [ea] at e'
    injection e' with e'
    subst e'
    omega)
  have CP2 := Lib.hid (show ∀ k, k < m → ∀ A n c, cur.toList[k * 2 + 1]? = some (.slice A n c) → n ≤ c ∧ c ≤ maxLen from fun k hk A n c hc => by
    obtain ⟨gA, oA, eA, hgA, hcA⟩ := HNN.out (by omega)
    rw [HCP.out gA oA eA k hk, Z2.out.cell (p := ⟨gA, _, none⟩) hgA] at hc
    exact HCAP.out gA oA eA k hk A n c hc)
  clear t0 t1 t2 t3 r0 r1 r2 r3 u0 u1 u2 u3 u4 u5 u6
  generalize w1.setCell ⟨w.heap.size, 2, none⟩ (.slice (some ⟨g, 0, none⟩) m c) = ws at *
  go_loopw [16] (fun iv wr => ∃ (i : Nat) (cu : Array Value), i ≤ m ∧ iv = .int .i64 (i : Int) ∧ Blk wr g 44 cu ∧ Inn wr (fun b => b = g ∨ b = w.heap.size + 1) cu.toList m lv (nxC lv nx level ch i) ∧ (∀ k, i ≤ k → cu.toList[k * 2 + 1]? = cur.toList[k * 2 + 1]?) ∧ Blk wr w.heap.size 25 #[.int .i64 st, .slice AH n cH, .slice (some ⟨g, 0, none⟩) m c] ∧ Blk wr (w.heap.size + 1) 25 #[.int .i64 0, .slice none 0 0, .slice none 0 0] ∧ Below w.heap.size w wr) (fun iv _ => m - (intOf iv).toNat)
  case atStart =>
    exact ⟨0, cur, Nat.zero_le _, rfl, KG2.out, by rw [nxC_zero]; exact IN2.out, fun k _ => rfl, KT2.out, KR2.out, B2.out⟩
  case round =>
    obtain ⟨i, cu, hi, rfl, hkg, hin, hsm, hkt, hkr, hbr⟩ := hrel
    obtain ⟨wo, rfl⟩ : ∃ wo, wo = wr := ⟨wr, rfl⟩
    have KG := Lib.hid hkg
    have IN := Lib.hid hin
    have SM := Lib.hid hsm
    have KTr := Lib.hid hkt
    have KRr := Lib.hid hkr
    have BR := Lib.hid hbr
    obtain ⟨s0, s1, s2, s3⟩ := hkt.three
    have hgl := hkg.lt
    clear hkg hin hsm hkt hkr hbr
    by_cases hlt : i < m
    · have d1 : decide ((i : Int) < (m : Int)) = true := by rw [decide_eq_true_iff]; omega
      obtain ⟨A', c', i1, i2, i3, i4⟩ := IN.out i hlt
      have h22 := H2.out i hlt
      rw [nxC_here, h22] at i2 i3 i4
      have c1 : wo.cell? ⟨g, i * 2, none⟩ = some (.int .i64 (lv i)) := by rw [KG.out.cell, ← Array.getElem?_toList]; exact i1
      have c2 : wo.cell? ⟨g, i * 2 + 1, none⟩ = some (.slice A' 2 c') := by rw [KG.out.cell, ← Array.getElem?_toList]; exact i2
      have hc' := CP2.out i hlt A' 2 c' (by rw [← SM.out i (Nat.le_refl _)]; exact i2)
      have f2 := KG.out.frozen (i * 2 + 1)
      have hcs : i * 2 + 1 < cu.size := by
        rcases Nat.lt_or_ge (i * 2 + 1) cu.size with q | q
        · exact q
        · rw [List.getElem?_eq_none (by simpa using q)] at i2; cases i2
      have I3 := Lib.hid i3
      have I4 := Lib.hid i4
      have HCC := Lib.hid hc'
      have H22 := Lib.hid h22
      have HCS := Lib.hid hcs
      have CU2 := Lib.hid (show cu[i * 2 + 1]? = some (.slice A' 2 c') from by rw [← Array.getElem?_toList]; exact i2)
      clear i1 i2 i3 i4 hc' h22 hcs
      by_cases hl : lv i = level
      · have HL := Lib.hid hl
        subst hl
        generalize hvl : lv i = l at c1
        have HVL := Lib.hid hvl
        clear hvl
        have BA := Lib.hid ((Below.refl wo.heap.size wo).alloc (Nat.le_refl _) (.cells #[.int .i64 l, .slice A' 2 c'] 44))
        have KN := Lib.hid (Blk.new wo 44 #[.int .i64 l, .slice A' 2 c'])
        have s2' := (World.cell?_alloc_lt wo (.cells #[.int .i64 l, .slice A' 2 c'] 44) ⟨w.heap.size, 2, none⟩ s3).trans s2
        obtain ⟨n0, n1, n2, n3, n4⟩ := KN.out.two
        go_wp2_with fail
        have HRW := Lib.hid (show Reads (wo.alloc (.cells #[.int .i64 l, .slice A' 2 c'] 44)) (wo.alloc (.cells #[.int .i64 l, .slice A' 2 c'] 44)).heap.size A' 2 (il (nx i)) from (I3.out.below BA.out).more BA.out.size)
        have hal : (wo.alloc (.cells #[.int .i64 l, .slice A' 2 c'] 44)).heap.size = wo.heap.size + 1 := by simp only [World.size_alloc]
        have HAL := Lib.hid hal
        have KGa := Lib.hid (KG.out.alloc (.cells #[.int .i64 l, .slice A' 2 c'] 44))
        have KTa := Lib.hid (KTr.out.alloc (.cells #[.int .i64 l, .slice A' 2 c'] 44))
        have KRa := Lib.hid (KRr.out.alloc (.cells #[.int .i64 l, .slice A' 2 c'] 44))
        have BRa := Lib.hid (BR.out.trans (BA.out.mono BR.out.size))
        have INa := Lib.hid (IN.out.below BA.out)
        have SS : (wo.alloc (.cells #[.int .i64 l, .slice A' 2 c'] 44)).drew.cell? ⟨w.heap.size, 2, none⟩ = some (.slice (some ⟨g, 0, none⟩) m c) ∧ (wo.alloc (.cells #[.int .i64 l, .slice A' 2 c'] 44)).drew.cell? ⟨wo.heap.size, 1, none⟩ = some (.slice A' 2 c') := ⟨s2', n1⟩
        clear s0 s1 s2 s2' n0 n1 n2 n3 n4 c1 c2 f2 hal
        generalize wo.alloc (.cells #[.int .i64 l, .slice A' 2 c'] 44) = wa at *
        have CC := Lib.hid (HC.out wa.drew A' c' i BRa.out.drew hlt rfl HRW.out HCC.out.1 HCC.out.2)
        obtain ⟨SS1, SS2⟩ := SS
        have hne1 : w.heap.size ≠ g := by omega
        have hne2 : wo.heap.size ≠ g := by omega
        go_region_with (go_at_call 44; go_loud ((with_reducible refine CC.out.mono ?_); rintro e w4 ⟨rfl, hk4, hb4⟩; have K4 := Lib.hid hk4; have B4 := Lib.hid hb4; have KG4 := Lib.hid (KGa.out.drew.below hb4 KGa.out.lt); have KT4 := Lib.hid (KTa.out.drew.below hb4 KTa.out.lt); have q1 := KT4.out.three.2.2.1; have f4 := KG4.out.frozen (i * 2 + 1); have g4 := (KG4.out.cell (i * 2 + 1)).trans CU2.out; clear hk4 hb4))
        all_goals
          go_wp2_with fail
          have he : (ch (nx i)).length = 2 := HCH.out _ H22.out
          have hws : wo.heap.size < wa.heap.size := by have := HAL.out; omega
          have B5 : Below wa.heap.size wa w4 := ⟨B4.out.os, B4.out.tape, B4.out.output, B4.out.size, B4.out.block⟩
          have hs4 : w4.heap.size = (w4.setCell ⟨g, i * 2 + 1, none⟩ (.slice (some ⟨wa.heap.size, 0, none⟩) 2 2)).heap.size := by simp [World.setCell]
          have K5 := K4.out.far (p := ⟨g, i * 2 + 1, none⟩) (by show wa.heap.size ≠ g; omega) (.slice (some ⟨wa.heap.size, 0, none⟩) 2 2)
          have hr := two_reads K5
          rw [two_list he] at hr
          have hI := INa.out.set (c := 2) (e := ch (nx i)) (A := some ⟨wa.heap.size, 0, none⟩) (by rw [← hs4]; exact B5.size) (fun b hb hn => (Below.heap_setCell w4 _ _ b (by show b ≠ g; omega)).trans (B5.block b hb)) HCS.out (by rw [he]; exact hr) (fun ad ea => by injection ea with ea; subst ea; show ¬ (wa.heap.size = g ∨ wa.heap.size = w.heap.size + 1); omega)
          rw [he] at hI
          have KR5 := (KRa.out.below B5 KRa.out.lt).far (p := ⟨g, i * 2 + 1, none⟩) (by show w.heap.size + 1 ≠ g; omega) (.slice (some ⟨wa.heap.size, 0, none⟩) 2 2)
          have BR5 := (BRa.out.trans (B5.mono BRa.out.size)).setCell (p := ⟨g, i * 2 + 1, none⟩) (by show w.heap.size ≤ g; omega) (.slice (some ⟨wa.heap.size, 0, none⟩) 2 2)
          exact ⟨⟨i + 1, _, by omega, by go_num, KG4.out.set_ _ _, by rw [nxC_yes HVL.out]; first | exact hI | (rw [HVL.out] at hI; exact hI), fun k hk => by rw [Array.toList_setIfInBounds, List.getElem?_set_ne (by omega)]; exact SM.out k (by omega), KT4.out.far (p := ⟨g, i * 2 + 1, none⟩) hne1 _, KR5, BR5⟩, by simp [intOf]; omega⟩
      · have NX := Lib.hid (nxC_no (nx := nx) (ch := ch) hl)
        have d2 : decide (lv i = level) = false := by rw [decide_eq_false_iff_not]; exact hl
        have d3 : (lv i == level) = false := by simpa using hl
        generalize hvl : lv i = l at c1 d2 d3 hl
        have HVL := Lib.hid hvl
        clear hvl
        go_wp2
        have BA := (Below.refl wo.heap.size wo).alloc (Nat.le_refl _) (.cells #[.int .i64 l, .slice A' 2 c'] 44)
        exact ⟨⟨i + 1, cu, by omega, by go_num, KG.out.alloc _, by rw [NX.out]; exact IN.out.below BA, fun k hk => SM.out k (by omega), KTr.out.alloc _, KRr.out.alloc _, BR.out.alloc BR.out.size _⟩, by simp [intOf]; omega⟩
    · obtain rfl : i = m := by omega
      have d1 : decide ((i : Int) < (i : Int)) = false := by rw [decide_eq_false_iff_not]; omega
      obtain ⟨r0, r1, r2, r3, r4, r5, r6⟩ := KRr.out.three6
      go_wp2
      have FZ := set3_fr wo (w.heap.size + 1) (.int .i64 st) (.slice AH n cH) (.slice (some ⟨g, 0, none⟩) i c)
      have KZ : Blk (((wo.setCell ⟨w.heap.size + 1, 0, none⟩ (.int .i64 st)).setCell ⟨w.heap.size + 1, 1, none⟩ (.slice AH n cH)).setCell ⟨w.heap.size + 1, 2, none⟩ (.slice (some ⟨g, 0, none⟩) i c)) (w.heap.size + 1) 25 #[.int .i64 st, .slice AH n cH, .slice (some ⟨g, 0, none⟩) i c] := by simpa using ((KRr.out.set_ 0 (.int .i64 st)).set_ 1 (.slice AH n cH)).set_ 2 (.slice (some ⟨g, 0, none⟩) i c)
      obtain ⟨y0, y1, y2, y3⟩ := KZ.three
      exact bodyPost_ret (v := .agg #[.int .i64 st, .slice AH n cH, .slice (some ⟨g, 0, none⟩) i c]) (by simp [results, Tryd.results42, go_sem, y0, y1, y2]) rfl ⟨g, c, rfl, NR.of_blk (FZ.blk KG.out (by omega)) (IN.out.far (G' := fun b => b = g ∨ b = w.heap.size + 1) FZ.size (fun b hb hn => FZ.block b hb (by omega)) (fun _ _ x => x)), BR.out.trans (FZ.below (fun k hk => by omega) BR.out.size)⟩
end Go.Proofs.YthgnjjpkmikokaaDoor
