/- What permuted computes, and its bounds. -/
/- The walk of permuted. -/
/- The walk of view. -/
/- The walk of ask. -/
/- The walks of answer and Next. -/
/- Plain mathematics: what a symmetry does to views and tallies; the new state is a state. -/
import Derived.Test.YtedjjhaopohibaaGreatDoorMe
import Derived.Deep.RegionHeld3
import Derived.Deep.RegionHeldLaw
import Derived.Deep.RegionLaw
import Derived.Deep.AppendLies
namespace Go.Proofs.YtedjjhaopohibaaGreatDoor
open Go.RowKit

theorem Below.alloc' {w0 w : World} (h : Below w0.heap.size w0 w) (o : Obj) : Below w0.heap.size w0 (w.alloc o) := h.alloc h.size o
theorem Below.drew' {B : Nat} {w0 w : World} (h : Below B w0 w) : Below B w0 w.drew := h.drew
/-- the tally of the first j states -/
def cl8 (li : List Int) (j : Nat) : List Int := [cnt li 0 j, cnt li 1 j, cnt li 2 j, cnt li 3 j, cnt li 4 j, cnt li 5 j, cnt li 6 j, cnt li 7 j]
theorem cl8_at (li : List Int) (j s : Nat) (hs : s < 8) : ig (cl8 li j) s = cnt li (s : Int) j := by
  match s, hs with
  | 0, _ | 1, _ | 2, _ | 3, _ | 4, _ | 5, _ | 6, _ | 7, _ => rfl
theorem cl8_set (li : List Int) (j s : Nat) (hs : s < 8) (h : ig li j = (s : Int)) : (cl8 li j).set s (cnt li (s : Int) j + 1) = cl8 li (j + 1) := by
  match s, hs with
  | 0, _ | 1, _ | 2, _ | 3, _ | 4, _ | 5, _ | 6, _ | 7, _ => simp [cl8, cnt, h]
theorem cl8_tk (li : List Int) (j : Nat) (hj : j ≤ 200) : Tk (cl8 li j) := ⟨rfl, fun i hi => by
  rw [cl8_at li j i hi]
  have := cnt_bd li (i : Int) j
  omega⟩
/-- what is left behind element j -/
def ps (v : Nat → List Int) (l : List Int) (o ce sc : Int) (r : List (List Int)) (j : Nat) : List (List Int) :=
  if ig l j = o ∨ ix l (ig l j) < (j : Int) then r else wo (cnt l (ig l j) l.length) r (ch v l (ig l j) ce sc) r.length
def pf (v : Nat → List Int) (l : List Int) (o ce sc : Int) (a : List Int) : Nat → List (List Int)
  | 0 => [a]
  | j + 1 => ps v l o ce sc (pf v l o ce sc a j) j
/-- a state of the new state's choices serves -/
def pg (v : Nat → List Int) (l : List Int) (o ce sc : Int) (r : List (List Int)) (k : Nat) : Bool := decide (wo (cnt l o l.length) r [ig (ch v l o ce sc) k] r.length ≠ [])
def pm (v : Nat → List Int) (l : List Int) (o ce sc : Int) (a : List Int) : Int × Bool :=
  if pf v l o ce sc a l.length = [] then (0, false)
  else if 0 ≤ fx (pg v l o ce sc (pf v l o ce sc a l.length)) (ch v l o ce sc).length then (ig (ch v l o ce sc) (fx (pg v l o ce sc (pf v l o ce sc a l.length)) (ch v l o ce sc).length).toNat, true)
  else (0, false)
theorem ps_nil (v : Nat → List Int) (l : List Int) (o ce sc : Int) (j : Nat) : ps v l o ce sc [] j = [] := by
  unfold ps
  split <;> rfl
theorem pf_nil {v : Nat → List Int} {l : List Int} {o ce sc : Int} {a : List Int} {j k : Nat} (hjk : j ≤ k) (h : pf v l o ce sc a j = []) : pf v l o ce sc a k = [] := by
  induction k with
  | zero => rw [show j = 0 by omega] at h; exact h
  | succ k ih =>
    by_cases e : j = k + 1
    · rw [← e]; exact h
    · rw [pf, ih (by omega)]; exact ps_nil ..
/-- the variables' states -/
def Vd (v : Nat → List Int) (nv : Nat) (st : Int) : Prop := ∀ k, k < nv → (v k).length ≤ 8 ∧ ∀ x, x ∈ v k → 0 ≤ x ∧ x < st
theorem ups_ge {l : List Int} (h : ups l = true) (h0 : ∀ i, i < l.length → 0 ≤ ig l i) (i : Nat) (hi : i < l.length) : (i : Int) ≤ ig l i := by
  induction i with
  | zero => exact h0 0 hi
  | succ i ih =>
    have h1 := ih (by omega)
    have h2 := (ups_iff l).1 h (i + 1) hi (by omega)
    rw [show i + 1 - 1 = i by omega] at h2
    omega
theorem vd_of {v : Nat → List Int} {nv : Nat} {st : Int} (hs : st ≤ 8) (h : ∀ k, k < nv → vv st (v k) = true) : Vd v nv st := by
  intro k hk
  have := h k hk
  simp only [vv, Bool.and_eq_true, als_iff] at this
  obtain ⟨⟨_, h1⟩, h2⟩ := this
  refine ⟨?_, fun x hx => ?_⟩
  · rcases Nat.lt_or_ge 8 (v k).length with h3 | h3
    · have := ups_ge h2 (fun i hi => (h1 i hi).1) 8 h3
      have := h1 8 h3
      omega
    · exact h3
  · obtain ⟨j, hj, rfl⟩ := mem_ig hx
    exact h1 j hj
section
variable {v : Nat → List Int} {nv : Nat} {st : Int}
theorem ch0_bd (hv : Vd v nv st) (hs : st ≤ 8) {e : Int} (h1 : -(nv : Int) ≤ e) (h2 : e < st) : (ch0 v e).length ≤ 8 ∧ ∀ x, x ∈ ch0 v e → 0 ≤ x ∧ x < st := by
  unfold ch0
  split
  · exact hv _ (by omega)
  · exact ⟨by simp, fun x hx => by rw [List.mem_singleton] at hx; omega⟩
theorem ch_bd (hv : Vd v nv st) (hs : st ≤ 8) (l : List Int) (ce sc : Int) {e : Int} (h1 : -(nv : Int) ≤ e) (h2 : e < st) : (ch v l e ce sc).length ≤ 8 ∧ ∀ x, x ∈ ch v l e ce sc → 0 ≤ x ∧ x < st := by
  have hb := ch0_bd hv hs h1 h2
  unfold ch
  split
  · exact hb
  · split
    · split
      · rename_i hm
        exact ⟨by simp, fun x hx => by rw [List.mem_singleton] at hx; rw [hx]; exact hb.2 _ hm⟩
      · exact ⟨by simp, fun x hx => by cases hx⟩
    · exact hb
theorem ch_ig (hv : Vd v nv st) (hs : st ≤ 8) (l : List Int) (ce sc : Int) {e : Int} (h1 : -(nv : Int) ≤ e) (h2 : e < st) (k : Nat) (hk : k < (ch v l e ce sc).length) : 0 ≤ ig (ch v l e ce sc) k ∧ ig (ch v l e ce sc) k < 8 := by
  have := (ch_bd hv hs l ce sc h1 h2).2 _ (ig_mem hk)
  omega
theorem pf_len (hv : Vd v nv st) (hs : st ≤ 8) (l : List Int) (o ce sc : Int) (a : List Int) (he : ∀ i, i < l.length → -(nv : Int) ≤ ig l i ∧ ig l i < st) (j : Nat) (hj : j ≤ l.length) : (pf v l o ce sc a j).length ≤ 8 ^ j := by
  induction j with
  | zero => simp [pf]
  | succ j ih =>
    have h1 := ih (by omega)
    have h2 := he j (by omega)
    have h3 := (ch_bd hv hs l ce sc h2.1 h2.2).1
    rw [pf, ps]
    split
    · rw [Nat.pow_succ]; omega
    · have h4 := wo_len (cnt l (ig l j) l.length) (pf v l o ce sc a j) (ch v l (ig l j) ce sc) (pf v l o ce sc a j).length
      have h5 : (pf v l o ce sc a j).length * (ch v l (ig l j) ce sc).length ≤ 8 ^ j * 8 := Nat.mul_le_mul h1 h3
      rw [Nat.pow_succ]
      omega
theorem pf_tk (hv : Vd v nv st) (hs : st ≤ 8) (l : List Int) (o ce sc : Int) {a : List Int} (ha : Tk a) (he : ∀ i, i < l.length → -(nv : Int) ≤ ig l i ∧ ig l i < st) (j : Nat) (hj : j ≤ l.length) : ∀ y, y ∈ pf v l o ce sc a j → Tk y := by
  induction j with
  | zero => intro y hy; rw [pf, List.mem_singleton] at hy; rw [hy]; exact ha
  | succ j ih =>
    have h1 := ih (by omega)
    have h2 := he j (by omega)
    rw [pf, ps]
    split
    · exact h1
    · refine wo_tk h1 (cnt_bd ..).1 (fun k hk => ?_) _ (Nat.le_refl _)
      have := ch_ig hv hs l ce sc h2.1 h2.2 k hk
      omega
end
theorem pm_nil {v : Nat → List Int} {l : List Int} {o ce sc : Int} {a : List Int} {j : Nat} (hj : j ≤ l.length) (h : pf v l o ce sc a j = []) : pm v l o ce sc a = (0, false) := by
  rw [pm, if_pos (pf_nil hj h)]
theorem pm_some {v : Nat → List Int} {l : List Int} {o ce sc : Int} {a : List Int} {r : List (List Int)} {k : Nat} (hr : r = pf v l o ce sc a l.length) (h0 : r ≠ []) (hk : k < (ch v l o ce sc).length) (hb : ∀ i, i < k → pg v l o ce sc r i = false) (h : pg v l o ce sc r k = true) : pm v l o ce sc a = (ig (ch v l o ce sc) k, true) := by
  rw [pm, ← hr, if_neg h0, fx_some hk hb h, if_pos (by omega)]
  rfl
theorem pm_none {v : Nat → List Int} {l : List Int} {o ce sc : Int} {a : List Int} {r : List (List Int)} (hr : r = pf v l o ce sc a l.length) (h0 : r ≠ []) (hb : ∀ i, i < (ch v l o ce sc).length → pg v l o ce sc r i = false) : pm v l o ce sc a = (0, false) := by
  rw [pm, ← hr, if_neg h0, fx_none hb]
  rfl
theorem pow_bd {n j : Nat} (h : n ≤ 8 ^ j) (hj : j ≤ 9) : n ≤ 134217728 := by
  have := Nat.pow_le_pow_right (n := 8) (by decide) hj
  omega
theorem pow_bd8 {n j : Nat} (h : n ≤ 8 ^ j) (hj : j ≤ 8) : n ≤ 16777216 := by
  have := Nat.pow_le_pow_right (n := 8) (by decide) hj
  omega
end Go.Proofs.YtedjjhaopohibaaGreatDoor
namespace Go.Proofs.YtedjjhaopohibaaGreatDoor
open Go.RowKit

set_option maxRecDepth 100000 in
set_option maxHeartbeats 4000000 in
theorem permuted_any (g : Nat) (T : Tab) (li : List Int) (ce : Int) (m : Nat) (vs : Nat → List Int) (AI : Option Addr) (cI : Nat) (l : List Int) (o : Int) (w : World)
    (h : QR w g T li ce m vs) (hI : Reads w w.heap.size AI T.n (il l)) (hr : Rw T.n T.nv T.st l o) (hv : Vd T.v T.nv T.st) (hs8 : T.st ≤ 8) (hn9 : T.n ≤ 9) (hc : ce < T.n) (hc1 : -1 ≤ ce) (hli : li.length = T.n) (hst : ∀ i, i < T.n → 0 ≤ ig li i ∧ ig li i < T.st) (hnv : T.nv ≤ 1000) :
    Calls Tryz.prog 38 #[.pointer (some ⟨g, 0, none⟩), .agg #[.slice AI T.n cI, .int .i64 o]] w fun e' w' => AnsOut (pm T.v l o ce (ig li ce.toNat) (cl8 li T.n)) w e' w' := by
  have hl : ∀ k, k < T.nv → (T.v k).length ≤ 1000 := fun k hk => by have := (hv k hk).1; omega
  have HQ := Lib.hid (fun w' (hb : Below w.heap.size w w') => h.later hb)
  have HI := Lib.hid (fun w' (hb : Below w.heap.size w w') => (show Reads w' w'.heap.size AI T.n (il l) from (hI.below hb).more hb.size))
  have CH := Lib.hid (fun w' e (hb : Below w.heap.size w w') (he : -(T.nv : Int) ≤ e) => choices_any g T li ce m vs AI cI l o e w' (h.later hb) ((hI.below hb).more hb.size) he hc hc1 hli (by omega) hnv hl)
  obtain ⟨AH, cH, AV, cV, AR, cR, AQ, cQ, AW, cW, hk, ht, hi, hw⟩ := h
  obtain ⟨st, ky, n, f, nv, v, nr, ri, ro⟩ := T
  simp only at *
  have HL := Lib.hid hr.len
  have HE := Lib.hid hr.els
  have HO := Lib.hid hr.out
  have HV := Lib.hid hv
  have HQI := Lib.hid (fun w' (hb : Below w.heap.size w w') => (show Reads w' w'.heap.size AQ li.length (il li) from (hi.1.below hb).more hb.size))
  have HST := Lib.hid hst
  have HLI := Lib.hid hli
  have K1 := Lib.hid ((Blk.new w 47 #[.slice AI n cI, .int .i64 o]).alloc (.cells #[.int .u8 0, .int .u8 0, .int .u8 0, .int .u8 0, .int .u8 0, .int .u8 0, .int .u8 0, .int .u8 0] 107))
  have K2 := Blk.new (w.alloc (.cells #[.slice AI n cI, .int .i64 o] 47)) 107 #[.int .u8 0, .int .u8 0, .int .u8 0, .int .u8 0, .int .u8 0, .int .u8 0, .int .u8 0, .int .u8 0]
  rw [show (w.alloc (.cells #[.slice AI n cI, .int .i64 o] 47)).heap.size = w.heap.size + 1 by simp] at K2
  have KA := Lib.hid ((hk.alloc (.cells #[.slice AI n cI, .int .i64 o] 47)).alloc (.cells #[.int .u8 0, .int .u8 0, .int .u8 0, .int .u8 0, .int .u8 0, .int .u8 0, .int .u8 0, .int .u8 0] 107))
  have B2 : Below w.heap.size w ((w.alloc (.cells #[.slice AI n cI, .int .i64 o] 47)).alloc (.cells #[.int .u8 0, .int .u8 0, .int .u8 0, .int .u8 0, .int .u8 0, .int .u8 0, .int .u8 0, .int .u8 0] 107)) := ((Below.refl _ _).alloc (Nat.le_refl _) _).alloc (by simp) _
  obtain ⟨pp, hpp⟩ : ∃ pp, pp = pm v l o ce (ig li ce.toNat) (cl8 li n) := ⟨_, rfl⟩
  rw [← hpp]
  have PD := Lib.hid hpp
  have hgw : g < w.heap.size := hk.lt
  clear hI hr hv hi hst hli hk ht hw hl hpp
  go_enter Tryz.func38, Tryz.ntmps38
  go_upto_region 2 with (fail)
  obtain ⟨rb, hrb⟩ : ∃ rb, rb = w.heap.size := ⟨_, rfl⟩
  generalize (w.alloc (.cells #[.slice AI n cI, .int .i64 o] 47)).alloc (.cells #[.int .u8 0, .int .u8 0, .int .u8 0, .int .u8 0, .int .u8 0, .int .u8 0, .int .u8 0, .int .u8 0] 107) = w0 at K1 K2 KA B2 ⊢
  rw [← hrb] at K1 K2 hgw ⊢
  have K2 := Lib.hid (show Blk w0 (rb + 1) 107 (tg (cl8 li 0)) from K2)
  have B2 := Lib.hid B2
  have HRB := Lib.hid hrb
  clear hrb
  obtain ⟨q0, q1, q2, q3, q4, q5, q6, q7, q8⟩ := KA.out.eight
  rw [HLI.out] at q5
  go_wp2
  go_loopw [19] (fun jv wr => ∃ j : Nat, j ≤ n ∧ jv = .int .i64 (j : Int) ∧ (Blk wr (rb + 1) 107 (tg (cl8 li j)) ∧ Blk wr rb 47 #[.slice AI n cI, .int .i64 o]) ∧ Below w.heap.size w wr) (fun jv _ => n - (intOf jv).toNat)
  case atStart => exact ⟨0, Nat.zero_le _, rfl, ⟨K2.out, K1.out⟩, B2.out⟩
  case round =>
    obtain ⟨j, hj, rfl, ⟨hk2, hk1⟩, hbel⟩ := hrel
    have HB := Lib.hid hbel
    have KT := Lib.hid hk2
    have KR := Lib.hid hk1
    clear hk2 hk1 hbel K1 K2 KA B2 q0 q1 q2 q3 q4 q5 q6 q7 q8
    have hwb : w.heap.size ≤ rb := by rw [HRB.out]; exact Nat.le_refl _
    by_cases hjn : j < n
    · obtain ⟨ad, rfl, hb1, c1⟩ := il_at (HQI.out _ HB.out) (show j < li.length by rw [HLI.out]; exact hjn)
      have hx := HST.out j hjn
      obtain ⟨s, hse⟩ : ∃ s : Nat, ig li j = (s : Int) := ⟨(ig li j).toNat, by omega⟩
      have hs : s < 8 := by omega
      have cs : wr.cell? ⟨rb + 1, s, none⟩ = some (.int .u8 (cnt li (s : Int) j)) := by rw [KT.out.cell, tg_at _ s hs, cl8_at li j s hs]
      have fs := KT.out.frozen s
      have hcb := cnt_bd li (s : Int) j
      have NX := Lib.hid (show Blk (wr.setCell ⟨rb + 1, s, none⟩ (.int .u8 (cnt li (s : Int) j + 1))) (rb + 1) 107 (tg (cl8 li (j + 1))) by
        rw [← cl8_set li j s hs hse, ← tg_set _ s _ rfl hs]; exact KT.out.set_ s _)
      have NR := Lib.hid (KR.out.far (p := ⟨rb + 1, s, none⟩) (by simp) (.int .u8 (cnt li (s : Int) j + 1)))
      have NB := Lib.hid (HB.out.setCell (p := ⟨rb + 1, s, none⟩) (show w.heap.size ≤ rb + 1 by omega) (.int .u8 (cnt li (s : Int) j + 1)))
      rw [hse] at c1
      generalize cnt li (s : Int) j = y at cs hcb NX NR NB
      clear hx hse
      go_wp2
      go_roundw
      case rel => exact ⟨j + 1, by omega, by go_num, ⟨NX.out, NR.out⟩, NB.out⟩
      case measure => simp [intOf]; omega
    · obtain rfl : j = n := by omega
      have KX := Lib.hid (cl8_tk li j (by omega))
      have PFL := Lib.hid (fun i (hi : i ≤ j) => pf_len HV.out hs8 l o ce (ig li ce.toNat) (cl8 li j) (fun k hk => HE.out k (by rw [← HL.out]; exact hk)) i (by rw [HL.out]; exact hi))
      have PFT := Lib.hid (fun i (hi : i ≤ j) => pf_tk HV.out hs8 l o ce (ig li ce.toNat) KX.out (fun k hk => HE.out k (by rw [← HL.out]; exact hk)) i (by rw [HL.out]; exact hi))
      have PF0 := Lib.hid (show pf v l o ce (ig li ce.toNat) (cl8 li j) 0 = [cl8 li j] from rfl)
      have CHB := Lib.hid (fun e (h1 : -(nv : Int) ≤ e) (h2 : e < st) => ch_bd HV.out hs8 l ce (ig li ce.toNat) h1 h2)
      have CHI := Lib.hid (fun e (h1 : -(nv : Int) ≤ e) (h2 : e < st) => ch_ig HV.out hs8 l ce (ig li ce.toNat) h1 h2)
      generalize hsc : ig li ce.toNat = sc at CH PFL PFT PF0 PD CHB CHI ⊢
      obtain ⟨k0, k1, k2, k3, k4, k5, k6, k7, k8⟩ := KT.out.eight
      have R0 := Lib.hid (show TReads (wr.alloc (.cells (tg (cl8 li j)) 107)) (wr.alloc (.cells (tg (cl8 li j)) 107)).heap.size (some ⟨wr.heap.size, 0, none⟩) [cl8 li j] from fun _ => ⟨wr.heap.size, 0, rfl, by simp, fun k hk i hi => by
        have hk0 : k = 0 := by simpa using hk
        subst hk0
        have hb := (Blk.new wr 107 (tg (cl8 li j))).cell i
        rw [show 0 + 0 * 8 + i = i by omega, hb, tg_at _ i hi]
        rfl⟩)
      have BW := Lib.hid (HB.out.alloc HB.out.size (.cells (tg (cl8 li j)) 107))
      have KW := Lib.hid (KR.out.alloc (.cells (tg (cl8 li j)) 107))
      have XG := Lib.hid (show #[Value.int .u8 (ig (cl8 li j) 0), .int .u8 (ig (cl8 li j) 1), .int .u8 (ig (cl8 li j) 2), .int .u8 (ig (cl8 li j) 3), .int .u8 (ig (cl8 li j) 4), .int .u8 (ig (cl8 li j) 5), .int .u8 (ig (cl8 li j) 6), .int .u8 (ig (cl8 li j) 7)] = tg (cl8 li j) from rfl)
      have LN := Lib.hid (show ([cl8 li j] : List (List Int)).length = 1 from rfl)
      go_upto_region 8 with (fail)
      rw [XG.out]
      clear k0 k1 k2 k3 k4 k5 k6 k7 k8
      generalize cl8 li j = a at KX PFL PFT PF0 R0 BW KW XG LN PD ⊢
      obtain ⟨wa, hwa⟩ : ∃ wa, wa = wr.heap.size := ⟨_, rfl⟩
      rw [← hwa] at R0 ⊢
      clear hwa
      generalize wr.alloc (.cells (tg a) 107) = w1 at R0 BW KW ⊢
      obtain ⟨n, rfl⟩ : ∃ n, n = j := ⟨_, rfl⟩
      obtain ⟨k0, k1, k2, k3, k4⟩ := KW.out.two
      go_wp2
      go_loopw [9, 34] (fun rv jv wr => ∃ (j : Nat) (r : List (List Int)) (A' : Option Addr) (c' : Nat), j ≤ n ∧ jv = .int .i64 (j : Int) ∧ r = pf v l o ce sc a j ∧ rv = .slice A' r.length c' ∧ (r ≠ [] ∧ TReads wr wr.heap.size A' r ∧ Blk wr rb 47 #[.slice AI n cI, .int .i64 o]) ∧ Below w.heap.size w wr) (fun _ jv _ => n - (intOf jv).toNat)
      case atStart => exact ⟨0, [a], _, 1, Nat.zero_le _, rfl, PF0.out.symm, rfl, ⟨by simp, R0.out, KW.out⟩, BW.out⟩
      case round =>
        obtain ⟨j, r, A', c', hj, rfl, hr, rfl, ⟨hr0, hrd, hkr⟩, hbel⟩ := hrel
        have HB2 := Lib.hid hbel
        have HR := Lib.hid hr
        have HR0 := Lib.hid hr0
        have HRD := Lib.hid hrd
        have KR2 := Lib.hid hkr
        have hsz := hbel.size
        clear k0 k1 k2 k3 k4 hr hr0 hrd hbel
        obtain ⟨k0, k1, k2, k3, k4⟩ := hkr.two
        clear hkr
        by_cases hjn : j < n
        · have hjl : j < l.length := by rw [HL.out]; exact hjn
          obtain ⟨ad, rfl, hb1, c1⟩ := il_at (HI.out _ HB2.out) hjn
          obtain ⟨k, hkj, hk⟩ := ix_self hjl
          have hel := HE.out j hjn
          have ST := Lib.hid (show pf v l o ce sc a (j + 1) = ps v l o ce sc r j by rw [HR.out]; rfl)
          have RL := Lib.hid (show r.length ≤ 16777216 by rw [HR.out]; exact pow_bd8 (PFL.out j hj) (by omega))
          have RT := Lib.hid (show ∀ y, y ∈ r → Tk y by rw [HR.out]; exact PFT.out j hj)
          have STU := Lib.hid (show ps v l o ce sc r j = if ig l j = o ∨ ix l (ig l j) < (j : Int) then r else wo (cnt l (ig l j) l.length) r (ch v l (ig l j) ce sc) r.length from rfl)
          rw [hk] at STU
          obtain ⟨e, he⟩ : ∃ e, e = ig l j := ⟨_, rfl⟩
          rw [← he] at c1 STU hel hk
          by_cases heo : e = o
          · have HT := Lib.hid (show r = pf v l o ce sc a (j + 1) by rw [ST.out, STU.out, if_pos (.inl heo)])
            have hq : (e == o) = true := by rw [beq_iff_eq]; exact heo
            clear heo he hk
            go_wp2
            go_roundw
            case rel => exact ⟨j + 1, r, A', c', by omega, by go_num, HT.out, rfl, ⟨HR0.out, HRD.out, KR2.out⟩, HB2.out⟩
            case measure => simp [intOf]; omega
          · have hq : (e == o) = false := by rw [beq_eq_false_iff_ne]; exact heo
            have IX := fun w' (hb : Below w.heap.size w w') => index_int (some ad) n cI w'.heap.size l w' e (HI.out w' hb) (by omega)
            rw [hk] at IX
            have IXH := Lib.hid IX
            clear IX he
            by_cases hkj2 : k < j
            · have HT := Lib.hid (show r = pf v l o ce sc a (j + 1) by rw [ST.out, STU.out, if_pos (.inr (by omega))])
              have hd : decide (k < j) = true := decide_eq_true hkj2
              clear heo hk
              go_wp2_with (go_at_call 57; (with_reducible refine (IXH.out _ HB2.out).mono ?_); rintro e w' ⟨rfl, rfl⟩)
              go_roundw
              case rel => exact ⟨j + 1, r, A', c', by omega, by go_num, HT.out, rfl, ⟨HR0.out, HRD.out, KR2.out⟩, HB2.out⟩
              case measure => simp [intOf]; omega
            · have hkj3 : k = j := by omega
              have hd : decide (k < j) = false := decide_eq_false hkj2
              have HT := Lib.hid (show pf v l o ce sc a (j + 1) = wo (cnt l e n) r (ch v l e ce sc) r.length by rw [ST.out, STU.out, if_neg (by omega), HL.out])
              have hchb := CHB.out e hel.1 hel.2
              have hchi := Lib.hid (CHI.out e hel.1 hel.2)
              have hcb := cnt_bd l e n
              have P1 := fun w' (hb : Below wr.heap.size wr w') => CH.out w' e (HB2.out.trans (hb.mono hsz)) hel.1
              have P2 := fun w' (hb : Below wr.heap.size wr w') => count_any (some ad) n cI w'.heap.size l e w' (HI.out w' (HB2.out.trans (hb.mono hsz))) (by omega)
              have P3 := fun w' (hb : Below wr.heap.size wr w') AS cS (hs : Reads w' w'.heap.size AS (ch v l e ce sc).length (il (ch v l e ce sc))) => without_any A' c' r AS (ch v l e ce sc).length cS (ch v l e ce sc) (cnt l e n) w' (HRD.out.later hb) RT.out hs hchi.out hcb.1 (by omega) (by have := RL.out; omega) (by have := RL.out; have := Nat.mul_le_mul this hchb.1; omega) (by omega)
              have KP := Lib.hid (show ∀ w', Below wr.heap.size wr w' → w'.cell? ⟨rb, 0, none⟩ = some (.slice (some ad) n cI) ∧ w'.cell? ⟨rb, 1, none⟩ = some (.int .i64 o) from fun w' hb => ⟨(KR2.out.below hb KR2.out.lt).two.1, (KR2.out.below hb KR2.out.lt).two.2.1⟩)
              have hchl := hchb.1
              generalize ch v l e ce sc = CL at P1 P3 hchl HT
              generalize hcl : cnt l e n = cc at P2 P3 HT
              obtain ⟨L, hL⟩ : ∃ L, L = wo cc r CL r.length := ⟨_, rfl⟩
              rw [← hL] at P3 HT
              have HLQ := Lib.hid hL
              clear hL hcl hcb hchb
              have P1 := Lib.hid (fun w' (hb : Below wr.heap.size wr w') => (P1 w' hb).mono (R' := fun e w'' => ∃ A2 c2, e = .returned (.slice A2 CL.length c2) ∧ Reads w'' w''.heap.size A2 CL.length (il CL) ∧ Below wr.heap.size wr w'') fun e w'' ⟨A2, c2, he, h1, h2⟩ => ⟨A2, c2, he, h1, hb.trans (h2.mono hb.size)⟩)
              have P2 := Lib.hid P2
              have P3 := Lib.hid (fun w' (hb : Below wr.heap.size wr w') AS cS hs => (P3 w' hb AS cS hs).mono (R' := fun e w'' => ∃ A2 c2, e = .returned (.slice A2 L.length c2) ∧ TReads w'' w''.heap.size A2 L ∧ Below wr.heap.size wr w'') fun e w'' ⟨A2, c2, he, h1, h2⟩ => ⟨A2, c2, he, h1, hb.trans (h2.mono hb.size)⟩)
              go_wp2_with (go_at_call 57; (with_reducible refine (IXH.out _ HB2.out).mono ?_); rintro e w' ⟨rfl, rfl⟩)
              go_cut [9] from 51 to 60 (fun s9 wx => ∃ A2 c2, s9 = .slice A2 L.length c2 ∧ TReads wx wx.heap.size A2 L ∧ Below wr.heap.size wr wx)
              case first =>
                go_region_held3 (fun w' => w'.cell? ⟨rb, 0, none⟩ = some (.slice (some ad) n cI) ∧ w'.cell? ⟨rb, 1, none⟩ = some (.int .i64 o))
                  (first | (refine KP.out _ ?_; (with_reducible (repeat (first | assumption | exact Below.refl _ _ | refine Below.drew' ?_ | refine Below.alloc' ?_ _))); done) | go_keep)
                  (first
                    | (go_at_call 59; (with_reducible refine (P1.out _ ?_).mono ?_); (with_reducible (repeat (first | assumption | exact Below.refl _ _ | refine Below.drew' ?_ | refine Below.alloc' ?_ _))); rintro e wa ⟨A2, c2, rfl, h1, ha⟩)
                    | (go_at_call 60; (with_reducible refine (P2.out _ ?_).mono ?_); (with_reducible (repeat (first | assumption | exact Below.refl _ _ | refine Below.drew' ?_ | refine Below.alloc' ?_ _))); rintro e wb ⟨rfl, rfl⟩)
                    | (go_at_call 58; (with_reducible refine (P3.out _ ?_ _ _ ?_).mono ?_); (with_reducible (repeat (first | assumption | exact Below.refl _ _ | refine Below.drew' ?_ | refine Below.alloc' ?_ _))); (first | exact h1 | skip); rintro e wc ⟨A3, c3, rfl, h3, hc3⟩))
                all_goals
                  go_wp2_with fail
                  go_meet
                  exact ⟨_, _, rfl, h3, hc3⟩
              case rest =>
                obtain ⟨A2, c2, rfl, h1, h2⟩ := hcut
                have B3 := Lib.hid (HB2.out.trans (h2.mono hsz))
                have R3 := Lib.hid h1
                have K3 := Lib.hid (KR2.out.below h2 KR2.out.lt)
                clear h1 h2
                by_cases hL0 : L = []
                · have HF := Lib.hid (show pp = (0, false) from PD.out.trans (pm_nil (j := j + 1) (by rw [HL.out]; omega) (by rw [HT.out]; exact hL0)))
                  have hLl : ((L.length : Int) == 0) = true := by rw [hL0]; rfl
                  clear hL0
                  go_wp2
                  go_ret2
                  exact ⟨by rw [HF.out]; rfl, B3.out⟩
                · have hLl : ((L.length : Int) == 0) = false := by
                    rw [beq_eq_false_iff_ne]
                    intro h
                    exact hL0 (List.length_eq_zero_iff.1 (by omega))
                  have HL0 := Lib.hid hL0
                  clear hL0
                  go_wp2
                  go_roundw
                  case rel => exact ⟨j + 1, L, A2, c2, by omega, by go_num, HT.out.symm, rfl, ⟨HL0.out, R3.out, K3.out⟩, B3.out⟩
                  case measure => simp [intOf]; omega
        · obtain rfl : j = n := by omega
          have hob : -(nv : Int) ≤ o ∧ o < st := by
            rcases HO.out with h | h
            · omega
            · obtain ⟨i, hi, rfl⟩ := mem_ig h
              exact HE.out i (by rw [← HL.out]; exact hi)
          have RL := Lib.hid (show r.length ≤ 134217728 by rw [HR.out]; exact pow_bd (PFL.out j (Nat.le_refl _)) (by omega))
          have RT := Lib.hid (show ∀ y, y ∈ r → Tk y by rw [HR.out]; exact PFT.out j (Nat.le_refl _))
          have C1 := Lib.hid (CH.out wr o HB2.out hob.1)
          have hchb := CHB.out o hob.1 hob.2
          have hchi := Lib.hid (CHI.out o hob.1 hob.2)
          have hchl := hchb.1
          have PS := Lib.hid (fun k hk hb h => PD.out.trans <| pm_some (v := v) (l := l) (o := o) (ce := ce) (sc := sc) (a := a) (r := r) (k := k) (by rw [HL.out]; exact HR.out) HR0.out hk hb h)
          have PN := Lib.hid (fun hb => PD.out.trans <| pm_none (v := v) (l := l) (o := o) (ce := ce) (sc := sc) (a := a) (r := r) (by rw [HL.out]; exact HR.out) HR0.out hb)
          have PG := Lib.hid (fun k => show pg v l o ce sc r k = decide (wo (cnt l o l.length) r [ig (ch v l o ce sc) k] r.length ≠ []) from rfl)
          rw [HL.out] at PG
          have hcb := cnt_bd l o j
          generalize hcl : cnt l o j = cc at PG hcb
          have P2 := Lib.hid (fun w' (hb : Below w.heap.size w w') => by have := count_any AI j cI w'.heap.size l o w' (HI.out w' hb) (by omega); rwa [hcl] at this)
          generalize ch v l o ce sc = CL at C1 PS PN PG hchl hchi
          generalize pg v l o ce sc r = good at PS PN PG
          obtain ⟨m2, hm2⟩ : ∃ m2, m2 = CL.length := ⟨_, rfl⟩
          have HM2 := Lib.hid hm2
          clear hcl hchb hjn
          go_wp2_with (go_at_call 59; (with_reducible refine C1.out.mono ?_); rintro e w3 ⟨A2, c2, rfl, h1, h2⟩; have B3 := Lib.hid (HB2.out.trans (h2.mono hsz)); have RD3 := Lib.hid (HRD.out.later h2); have KR3 := Lib.hid (KR2.out.below h2 KR2.out.lt); have CR3 := Lib.hid h1; clear h1 h2)
          rw [← hm2]
          clear hm2
          have hs3 := B3.out.size
          clear k0 k1 k2 k3 k4
          go_loopw [71] (fun kv wr => ∃ k : Nat, k ≤ m2 ∧ kv = .int .i64 (k : Int) ∧ (∀ i, i < k → good i = false) ∧ Below w3.heap.size w3 wr) (fun kv _ => m2 - (intOf kv).toNat)
          case atStart => exact ⟨0, Nat.zero_le _, rfl, fun i hi => absurd hi (by omega), Below.refl _ _⟩
          case round =>
            obtain ⟨k, hk, rfl, hno, hbel⟩ := hrel
            have HN := Lib.hid hno
            have HX := Lib.hid hbel
            have B4 := Lib.hid (B3.out.trans (hbel.mono hs3))
            have hs4 := B4.out.size
            have KR4 := KR3.out.below hbel KR3.out.lt
            clear hno
            by_cases hkm : k < m2
            · have hkl : k < CL.length := by rw [← HM2.out]; exact hkm
              obtain ⟨ad, rfl, hb1, c1⟩ := il_at (CR3.out.below hbel) hkl
              have hsb := hchi.out k hkl
              have PSK := Lib.hid (fun h => PS.out k hkl HN.out h)
              have PGK := PG.out k
              have NX := Lib.hid (show good k = false → ∀ i, i < k + 1 → good i = false from fun h i hi => by
                by_cases e : i < k
                · exact HN.out i e
                · obtain rfl : i = k := by omega
                  exact h)
              generalize good k = gk at PSK PGK NX
              obtain ⟨s, hs⟩ : ∃ s, s = ig CL k := ⟨_, rfl⟩
              rw [← hs] at c1 hsb PSK PGK
              have K5 := Blk.new wr 3 #[.int .i64 s]
              have B5 := (Below.refl wr.heap.size wr).alloc (Nat.le_refl _) (.cells #[.int .i64 s] 3)
              have RS := Lib.hid (show Reads (wr.alloc (.cells #[.int .i64 s] 3)) (wr.alloc (.cells #[.int .i64 s] 3)).heap.size (some ⟨wr.heap.size, 0, none⟩) 1 (il [s]) from Reads.one (ad := ⟨wr.heap.size, 0, none⟩) (by simp) (by rw [K5.cell]; rfl))
              have P3 := without_any A' c' r (some ⟨wr.heap.size, 0, none⟩) 1 1 [s] cc (wr.alloc (.cells #[.int .i64 s] 3)) ((RD3.out.later hbel).later B5) RT.out RS.out (fun i hi => by
                have hi0 : i = 0 := by simpa using hi
                subst hi0
                exact hsb) hcb.1 (by omega) (by have := RL.out; omega) (by have := RL.out; simp; omega) (by omega)
              have P3 := Lib.hid (P3.mono (R' := fun e w'' => ∃ A2 c2, e = .returned (.slice A2 (wo cc r [s] r.length).length c2) ∧ Below wr.heap.size wr w'') fun e w'' ⟨A2, c2, he, h1, h2⟩ => ⟨A2, c2, he, B5.trans (h2.mono B5.size)⟩)
              have P2K := Lib.hid (P2.out (wr.alloc (.cells #[.int .i64 s] 3)) (B4.out.trans (B5.mono hs4)))
              obtain ⟨k0, k1, k2, k3, k4⟩ := (KR4.alloc (.cells #[.int .i64 s] 3)).two
              obtain ⟨L, hL⟩ : ∃ L, L = wo cc r [s] r.length := ⟨_, rfl⟩
              rw [← hL] at P3 PGK
              clear hL hs K5 B5 hbel KR4 hcb
              by_cases hL0 : L = []
              · have HT := Lib.hid (NX.out (by rw [PGK, hL0]; rfl))
                have hLl : decide (0 < (L.length : Int)) = false := by rw [hL0]; rfl
                have hLl2 : decide (0 < L.length) = false := by rw [hL0]; rfl
                clear hL0 PGK
                go_wp2_with (first
                  | (go_at_call 60; (with_reducible refine P2K.out.mono ?_); rintro e wb ⟨rfl, rfl⟩)
                  | (go_at_call 58; (with_reducible refine P3.out.mono ?_); rintro e wc ⟨A3, c3, rfl, h3⟩; have B6 := Lib.hid (HX.out.trans (h3.mono HX.out.size)); clear h3))
                go_roundw
                case rel => exact ⟨k + 1, by omega, by go_num, HT.out, B6.out⟩
                case measure => simp [intOf]; omega
              · have HF := Lib.hid (PSK.out (by rw [PGK]; exact decide_eq_true hL0))
                have hpos : 0 < L.length := List.length_pos_iff.2 hL0
                have hLl : decide (0 < (L.length : Int)) = true := by rw [decide_eq_true_iff]; omega
                have hLl2 : decide (0 < L.length) = true := decide_eq_true hpos
                clear hL0 PGK
                go_wp2_with (first
                  | (go_at_call 60; (with_reducible refine P2K.out.mono ?_); rintro e wb ⟨rfl, rfl⟩)
                  | (go_at_call 58; (with_reducible refine P3.out.mono ?_); rintro e wc ⟨A3, c3, rfl, h3⟩; have B6 := Lib.hid (B4.out.trans (h3.mono hs4)); clear h3))
                go_ret2
                exact ⟨by rw [HF.out]; rfl, B6.out⟩
            · obtain rfl : k = m2 := by omega
              have HF := Lib.hid (PN.out fun i hi => HN.out i (by rw [HM2.out]; exact hi))
              clear hbel KR4
              go_wp2
              go_ret2
              exact ⟨by rw [HF.out]; rfl, B4.out⟩
end Go.Proofs.YtedjjhaopohibaaGreatDoor
namespace Go.Proofs.YtedjjhaopohibaaGreatDoor
open Go.RowKit

/-- the index of the image of position i -/
def vi (f : Nat → P2) (n k i : Nat) : Nat := (px f n (tn k f i)).toNat
/-- the first j states of a view -/
def vw (f : Nat → P2) (n : Nat) (l : List Int) (k j : Nat) : List Int := (List.range j).map fun i => ig l (vi f n k i)
theorem vw_len (f : Nat → P2) (n : Nat) (l : List Int) (k j : Nat) : (vw f n l k j).length = j := by simp [vw]
theorem vw_succ (f : Nat → P2) (n : Nat) (l : List Int) (k j : Nat) : vw f n l k (j + 1) = vw f n l k j ++ [ig l (vi f n k j)] := by simp [vw, List.range_succ]
/-- a symmetry keeps the neighbourhood -/
def Keeps (f : Nat → P2) (n k : Nat) : Prop := ∀ i, i < n → ∃ j, j < n ∧ f j = tn k f i
theorem keeps_at {f : Nat → P2} {n k i : Nat} (h : Keeps f n k) (hi : i < n) : vi f n k i < n ∧ f (vi f n k i) = tn k f i := by
  obtain ⟨j, hj, e⟩ := h i hi
  rcases fx_cases (fun a => decide (f a = tn k f i)) n with ⟨a, ha, h1, h2, h3⟩ | ⟨h1, h2⟩
  · rw [vi, px, h1]
    exact ⟨ha, of_decide_eq_true h2⟩
  · exact absurd e (of_decide_eq_false (h2 j hj))

/-- a new list of numbers came back -/
def ViewOut (L : List Int) (w : World) (e : Ending) (w' : World) : Prop := ∃ A' c', e = .returned (.slice A' L.length c') ∧ Reads w' w'.heap.size A' L.length (il L) ∧ (0 < L.length → ∀ ad, A' = some ad → w.heap.size ≤ ad.block) ∧ Below w.heap.size w w'

set_option maxRecDepth 100000 in
set_option maxHeartbeats 4000000 in
theorem view_any (g : Nat) (T : Tab) (li : List Int) (ce : Int) (m : Nat) (vs : Nat → List Int) (k : Nat) (w : World)
    (h : QR w g T li ce m vs) (hM : Mat w) (hd : Hd T.f T.n) (hk : k < 8) (hkp : Keeps T.f T.n k) (hli : li.length = T.n) :
    Calls Tryz.prog 37 #[.pointer (some ⟨g, 0, none⟩), .int .i64 (k : Int)] w fun e' w' => ViewOut (vw T.f T.n li k T.n) w e' w' := by
  obtain ⟨i0, hi, hz0, hz1, hz2⟩ := info_parts Tryz.info_int
  obtain ⟨AH, cH, AV, cV, AR, cR, AQ, cQ, AW, cW, hkb, ht, hiq, hw⟩ := h
  obtain ⟨st, ky, n, f, nv, v, nr, ri, ro⟩ := T
  simp only at *
  have hn25 := hd.1.2
  have HH := Lib.hid ht.1
  have HQ := Lib.hid hiq.1
  have HLI := Lib.hid hli
  have K1 := Lib.hid hkb
  have HKP := Lib.hid (fun i (hi : i < n) => keeps_at hkp hi)
  have HIN := Lib.hid hd.2.1
  have HUP := Lib.hid hd.up
  have MH := Lib.hid hM
  have hz : 0 < w.heap.size := hM.1
  have hgw : g < w.heap.size := hkb.lt
  have VS := Lib.hid (vw_succ f n li k)
  have VL := Lib.hid (vw_len f n li k)
  obtain ⟨q0, q1, q2, q3, q4, q5, q6, q7, q8⟩ := hkb.eight
  rw [hli] at q5
  clear hd hkb ht hiq hw hli hkp hM
  go_enter Tryz.func37, Tryz.ntmps37
  go_wp2_with (at_make; refine wpList_make_own _ rfl _ _ 27 rfl w.heap.size 3 i0 (.int .i64 0) 1 Tryz.underlying27 hi hz0 hz1 .i64 .i64 _ n rfl rfl (by omega) (by rw [hz2]; omega) (by unfold maxLen; omega) (Nat.le_refl _) ?_; intro w2 hown2 hgrow2; have PB2 := Lib.hid ((Below.refl w.heap.size w).grown hgrow2 (Nat.le_refl _) (fun k hk => by cases hk)); obtain ⟨m0, m1, m2, m3, m4, m5, m6, m7, m8⟩ := (K1.out.below PB2.out hgw).eight)
  have HO2 := Lib.hid hown2
  rw [HLI.out] at m5
  clear hown2 hgrow2
  go_wp2
  go_loopw [5, 22] (fun lv jv wr => ∃ (j : Nat) (L : List Int) (A' : Option Addr) (c' : Nat), j ≤ n ∧ jv = .int .i64 (j : Int) ∧ L = vw f n li k j ∧ L.length = j ∧ lv = .slice A' L.length c' ∧ wr.ownsRow w.heap.size 3 1 (.slice A' L.length c') L.length (il L) ∧ Below w.heap.size w wr) (fun _ jv _ => n - (intOf jv).toNat)
  case atStart => exact ⟨0, [], _, n, Nat.zero_le _, rfl, rfl, rfl, rfl, HO2.out, PB2.out⟩
  case round =>
    obtain ⟨j, L, A', c', hj, rfl, hL, hLl, rfl, hown, hbel⟩ := hrel
    have HB := Lib.hid hbel
    have HW := Lib.hid hown
    have HL := Lib.hid hL
    have HLE := Lib.hid hLl
    have hsz := hbel.size
    have hLn : L.length ≤ 1000 := by omega
    clear hown hL hLl m0 m1 m2 m3 m4 m5 m6 m7 m8 q0 q1 q2 q3 q4 q5 q6 q7 q8
    by_cases hjn : j < n
    · obtain ⟨g1, o1, rfl, hb1, hc1⟩ := HH.out.below hbel (by omega)
      obtain ⟨c10, c11⟩ := hc1 j hjn
      have hx4 := HIN.out j hjn
      obtain ⟨hvn, hve⟩ := HKP.out j hjn
      have VSJ := VS.out j
      obtain ⟨aq, rfl, hbq, cq⟩ := il_at (HQ.out.below hbel) (show vi f n k j < li.length by rw [HLI.out]; exact hvn)
      obtain ⟨x, hx⟩ : ∃ x, x = ig li (vi f n k j) := ⟨_, rfl⟩
      rw [← hx] at cq VSJ
      have hve2 : f (vi f n k j) = (turnX k (f j).1 (f j).2, turnY k (f j).1 (f j).2) := hve
      clear hve hx hc1
      generalize vi f n k j = i at hvn hve2 cq
      generalize f j = p at c10 c11 hx4 hve2
      obtain ⟨x1, x2⟩ := p
      simp only at c10 c11 hx4 hve2
      have HVE := Lib.hid hve2
      have HVS := Lib.hid VSJ
      have B7 := HB.out.alloc HB.out.size (.cells #[.int .i64 x1, .int .i64 x2] 74)
      have BW := Lib.hid ((Below.refl wr.heap.size wr).alloc (Nat.le_refl _) (.cells #[.int .i64 x1, .int .i64 x2] 74))
      have K7 := Lib.hid (Blk.new wr 74 #[.int .i64 x1, .int .i64 x2])
      have W7 := Lib.hid (HW.out.alloc (.cells #[.int .i64 x1, .int .i64 x2] 74))
      have B7 := Lib.hid B7
      have S7 : wr.heap.size < (wr.alloc (.cells #[.int .i64 x1, .int .i64 x2] 74)).heap.size := by simp
      have KQ := (K1.out.below HB.out hgw).eight
      rw [HLI.out] at KQ
      obtain ⟨q0, q1, q2, q3, q4, q5, q6, q7, q8⟩ := KQ
      have CQ := Lib.hid cq
      have HBQ := Lib.hid hbq
      clear hve2 VSJ hbel cq hbq
      go_upto_region 5 with (fail)
      generalize wr.alloc (.cells #[.int .i64 x1, .int .i64 x2] 74) = w1 at K7 B7 BW S7 W7 ⊢
      clear c10 c11 q0 q1 q2 q3 q4 q5 q6 q7 q8
      have AP := Lib.hid (fun w' (hb : Below w1.heap.size w1 w') => by
        have := apply_any (k : Int) x1 x2 w' (MH.out.below (B7.out.trans (hb.mono B7.out.size)) hz) (by omega) (by omega) (by omega) (by omega)
        rwa [md_nat k hk] at this)
      have SE := Lib.hid (fun w' (hb : Below w1.heap.size w1 w') => search_any (some ⟨g1, o1, none⟩) n cH i f (turnX k x1 x2) (turnY k x1 x2) w' ((HH.out.below (B7.out.trans (hb.mono B7.out.size))).more (by have := (B7.out.trans (hb.mono B7.out.size)).size; exact this)) HUP.out (by omega) hvn HVE.out)
      have K8 := Lib.hid (K1.out.below B7.out hgw)
      have g7 := Nat.lt_of_lt_of_le hgw B7.out.size
      have q2 := fun p : LowW w1.heap.size w1 => (K8.out.below p.below K8.out.lt).eight.2.2.1
      have k0 := fun p : LowW w1.heap.size w1 => (K7.out.below p.below K7.out.lt).two.1
      have k1 := fun p : LowW w1.heap.size w1 => (K7.out.below p.below K7.out.lt).two.2.1
      refine wp_region_low w1.heap.size w1 (by kernel_rfl) (by kernel_rfl) (Below.refl _ _) ?_
      repeat (quiet_step (first | (go_at_call 56; with_reducible exact LowW.of_call _ (Nat.le_refl _) (AP.out _ (LowW.below _))) | (go_at_call 55; with_reducible exact LowW.of_call _ (Nat.le_refl _) (SE.out _ (LowW.below _)))))
      refine wpQuiet_nil ?_
      rintro w2 ⟨p, rfl⟩
      have B2 := Lib.hid (B7.out.trans (p.below.mono B7.out.size))
      have W2 := own_below W7.out p.below
      have hblk : (aq.add i).block < w.heap.size := by rw [block_of_add]; exact HBQ.out
      have CQ2 : p.w.cell? (aq.add i) = some (.int .i64 x) := (B2.out.cell hblk).trans ((HB.out.cell hblk).symm.trans CQ.out)
      clear q2 k0 k1
      generalize p.w = w2 at B2 W2 CQ2 ⊢
      have KQ := (K1.out.below B2.out hgw).eight
      rw [HLI.out] at KQ
      obtain ⟨q0, q1, q2, q3, q4, q5, q6, q7, q8⟩ := KQ
      have hs2 := B2.out.size
      have IL := Lib.hid (il_add L x)
      go_wp2_with (at_builtin; refine wpList_append1 rfl _ _ 27 rfl w.heap.size 3 i0 (.int .i64 0) 8 Tryz.underlying27 hi hz0 hz1 hz2 rfl A' L.length c' _ rfl W2 (.int .i64 x) rfl rfl (by unfold maxLen; omega) (by omega) hs2 ?_; intro g6 c6 w6 hown6 hbel6)
      go_roundw
      case rel => exact ⟨j + 1, L ++ [x], some ⟨g6, 0, none⟩, c6, by omega, by go_num, by rw [HVS.out, HL.out], by rw [List.length_append, HLE.out]; rfl, by simp, by rw [IL.out]; simpa using hown6, B2.out.trans hbel6⟩
      case measure => simp [intOf]; omega
    · obtain rfl : j = n := by omega
      have hl := HL.out
      go_wp2
      go_ret
      exact ⟨A', c', by rw [← hl]; rfl, by rw [← hl]; exact Reads.of_own HW.out, by
        rw [← hl]
        intro hpos ad hA
        obtain ⟨g', cap, hv, hbg, _⟩ := HW.out.form hpos
        injection hv with h1
        rw [hA] at h1
        injection h1 with h1
        rw [h1]
        exact hbg, HB.out⟩
end Go.Proofs.YtedjjhaopohibaaGreatDoor
namespace Go.Proofs.YtedjjhaopohibaaGreatDoor
open Go.RowKit

theorem Tryz.info_ints : (Tryz.prog.info? 27).map (fun i => (i.zero, i.size, i.bytes)) = some (some (.slice none 0 0), 1, 24) := by kernel_rfl
/-- a row of the call's own holds lists -/
def OL (w : World) (base : Nat) (A : Option Addr) (j c : Nat) (n : Nat) (vs : Nat → List Int) (g : Nat) : Prop :=
  ∃ xs, w.ownsRow base 27 1 (.slice A j c) j xs ∧ (Value.slice A j c).ownBlock ≠ some g ∧ ∀ k, k < j → ∃ A' c', xs[k]? = some (.slice A' n c') ∧ Reads w w.heap.size A' n (il (vs k)) ∧ ∀ ad, A' = some ad → ad.block ≠ g ∧ (Value.slice A j c).ownBlock ≠ some ad.block
theorem OL.vr {w : World} {base j c n g : Nat} {A : Option Addr} {vs : Nat → List Int} (h : OL w base A j c n vs g) (hl : ∀ k, k < j → (vs k).length = n) : VR w w.heap.size A j vs := fun hj => by
  obtain ⟨xs, ho, _, hx⟩ := h
  obtain ⟨g', cap, hv, _, hlt⟩ := ho.form hj
  injection hv with h1 h2 h3
  subst h1
  refine ⟨_, rfl, hlt, fun k hk => ?_⟩
  obtain ⟨A', c', e, hr, _⟩ := hx k hk
  refine ⟨A', c', ?_, by rw [hl k hk]; exact hr⟩
  rw [hl k hk]
  exact ho.cells (g := g') rfl k _ e
theorem Reads.block {w w' : World} {n : Nat} {A : Option Addr} {xs : List Value} (h : Reads w w.heap.size A n xs) (hs : w.heap.size ≤ w'.heap.size) (hb : ∀ ad, A = some ad → ad.block < w.heap.size → w'.heap[ad.block]? = w.heap[ad.block]?) : Reads w' w'.heap.size A n xs :=
  ⟨h.1, fun hn => by
    obtain ⟨ad, e, hlt, hc⟩ := h.2 hn
    exact ⟨ad, e, Nat.lt_of_lt_of_le hlt hs, fun j u hu => (World.cell?_of_block (by rw [block_of_add]; exact hb ad e hlt)).trans (hc j u hu)⟩⟩
theorem own_set1 {w : World} {base : Nat} {e : TypeId} {v : Value} {n : Nat} {xs : List Value} {p : Addr} (h : w.ownsRow base e 1 v n xs) (hp : v.ownBlock ≠ some p.block) (u : Value) : (w.setCell p u).ownsRow base e 1 v n xs := by
  refine ⟨h.1, ?_⟩
  rcases h.2 with hn | ⟨g, cap, cur, rfl, hb', hg, rest⟩
  · exact .inl hn
  · refine .inr ⟨g, cap, cur, rfl, hb', ?_, rest⟩
    have hne : g ≠ p.block := fun e => hp (by rw [e]; rfl)
    rw [Below.heap_setCell w p u g hne]; exact hg
theorem OL.step {wr wa w1 : World} {base j cW n g gg cap : Nat} {AW A' : Option Addr} {c' : Nat} {vs : Nat → List Int} {xs : List Value} {o : Obj} (u : Value) (i : Nat)
    (hown : wr.ownsRow base 27 1 (.slice AW j cW) j xs) (hob : (Value.slice AW j cW).ownBlock ≠ some g)
    (hxs : ∀ k, k < j → ∃ A' c', xs[k]? = some (.slice A' n c') ∧ Reads wr wr.heap.size A' n (il (vs k)) ∧ ∀ ad, A' = some ad → ad.block ≠ g ∧ (Value.slice AW j cW).ownBlock ≠ some ad.block)
    (ha : Below wr.heap.size wr wa) (h1 : Reads wa wa.heap.size A' n (il (vs j))) (hA : 0 < n → ∀ ad, A' = some ad → wr.heap.size ≤ ad.block) (hn : 0 < n)
    (hown1 : w1.ownsRow base 27 1 (.slice (some ⟨gg, 0, none⟩) (j + 1) cap) (j + 1) (xs ++ [.slice A' n c'])) (hgrow : (wa.alloc o).grownBy w1 (Value.slice AW j cW).ownBlock) (hat : (Value.slice AW j cW).ownBlock = some gg ∨ gg = wa.heap.size + 1)
    (hg : g < wr.heap.size) : OL (w1.setCell ⟨g, i, none⟩ u) base (some ⟨gg, 0, none⟩) (j + 1) cap n vs g := by
  have has := ha.size
  have hrow : ∀ b, (Value.slice AW j cW).ownBlock = some b → b < wr.heap.size := fun b hb => by
    rcases hown.2 with ⟨hv, _⟩ | ⟨g', cap', cur', hv, _, hg', _⟩
    · injection hv with h2 h3 h4
      subst h2
      simp [Value.ownBlock] at hb
    · have := (Array.getElem?_eq_some_iff.1 hg').1
      rw [hv] at hb
      simp [Value.ownBlock] at hb
      omega
  have hs1 : wa.heap.size + 1 ≤ w1.heap.size := by have := hgrow.size; simpa using this
  have hgn : gg ≠ g := by
    rintro rfl
    rcases hat with h | h
    · exact hob h
    · omega
  have keep : ∀ b, b < wa.heap.size → b ≠ g → (Value.slice AW j cW).ownBlock ≠ some b → (w1.setCell ⟨g, i, none⟩ u).heap[b]? = wa.heap[b]? := fun b hb hne hro =>
    (Below.heap_setCell w1 ⟨g, i, none⟩ u b hne).trans ((hgrow.block b (by simp; omega) (fun e => hro e.symm)).trans (Below.heap_alloc wa o b hb))
  refine ⟨_, own_set1 (p := ⟨g, i, none⟩) hown1 (by simp only [Value.ownBlock, ne_eq, Option.some.injEq]; exact hgn) u, by simp only [Value.ownBlock, ne_eq, Option.some.injEq]; exact hgn, fun k hk => ?_⟩
  have hlx : xs.length = j := by have := hown.1; omega
  by_cases e : k < j
  · obtain ⟨A2, c2, e2, hr, hne⟩ := hxs k e
    refine ⟨A2, c2, by rw [List.getElem?_append_left (by omega)]; exact e2, ?_, fun ad hA2 => ⟨(hne ad hA2).1, ?_⟩⟩
    · have hr2 := (hr.below ha).more has
      refine hr2.block (by simp; omega) fun ad hA2 hlt => keep _ hlt (hne ad hA2).1 (hne ad hA2).2
    · obtain ⟨ad2, e3, hlt2, _⟩ := hr.2 hn
      rw [hA2] at e3
      injection e3 with e3
      subst e3
      simp only [Value.ownBlock, ne_eq, Option.some.injEq]
      intro e4
      rcases hat with h | h
      · exact (hne ad hA2).2 (by rw [h, e4])
      · omega
  · obtain rfl : k = j := by omega
    refine ⟨A', c', by rw [List.getElem?_append_right (by omega), hlx]; simp, ?_, fun ad hA2 => ?_⟩
    · refine h1.block (by simp; omega) fun ad hA2 hlt => ?_
      have h5 := hA hn ad hA2
      exact keep _ hlt (by omega) (fun h => by have := hrow _ h; omega)
    · have h5 := hA hn ad hA2
      obtain ⟨ad2, e3, hlt2, _⟩ := h1.2 hn
      rw [hA2] at e3
      injection e3 with e3
      subst e3
      refine ⟨by omega, ?_⟩
      simp only [Value.ownBlock, ne_eq, Option.some.injEq]
      intro e4
      rcases hat with h | h
      · have := hrow _ h; omega
      · omega
/-- how many views a question has -/
def nwv (sy : Int) : Nat := if sy = 3 then 0 else ns sy
/-- the question of states came back -/
def AskOut (T : Tab) (l : List Int) (w : World) (e : Ending) (w' : World) : Prop := ∃ g, e = .returned (.pointer (some ⟨g, 0, none⟩)) ∧ QR w' g T l (px T.f T.n (0, 0)) (nwv T.sy) (fun k => vw T.f T.n l k T.n) ∧ Below w.heap.size w w'

set_option maxRecDepth 100000 in
set_option maxHeartbeats 4000000 in
theorem ask_any (AH : Option Addr) (cH : Nat) (AV : Option Addr) (cV : Nat) (AR : Option Addr) (cR : Nat) (T : Tab) (AI : Option Addr) (cI : Nat) (l : List Int) (w : World) (hM : Mat w) (h : TR w AH AV AR T) (hd : Hd T.f T.n) (hI : Reads w w.heap.size AI T.n (il l)) (hcI : T.n ≤ cI) (hkp : ∀ k, k < nwv T.sy → Keeps T.f T.n k) :
    Calls Tryz.prog 13 #[.agg #[.int .i64 T.st, .int .i64 T.sy, .slice AH T.n cH, .slice AV T.nv cV, .slice AR T.nr cR], .slice AI T.n cI] w fun e w' => AskOut T l w e w' := by
  obtain ⟨i0, hi, hz0, hz1, hz2⟩ := info_parts Tryz.info_ints
  have HL := Lib.hid (reads_len hI)
  have CE := Lib.hid (fun w' (hb : Below w.heap.size w w') => hcentre_any AH T.n cH T.f w' (h.1.later hb) hd)
  have K0 := Blk.new w 26 #[.int .i64 T.st, .int .i64 T.sy, .slice AH T.n cH, .slice AV T.nv cV, .slice AR T.nr cR]
  have B0 := (Below.refl w.heap.size w).alloc (Nat.le_refl _) (.cells #[.int .i64 T.st, .int .i64 T.sy, .slice AH T.n cH, .slice AV T.nv cV, .slice AR T.nr cR] 26)
  have QW := Lib.hid (fun w' (g : Nat) AW nw cW vs (hb : Below w.heap.size w w') (hk : Blk w' g 51 #[.int .i64 T.st, .int .i64 T.sy, .slice AH T.n cH, .slice AV T.nv cV, .slice AR T.nr cR, .slice AI T.n cI, .int .i64 (px T.f T.n (0, 0)), .slice AW nw cW]) (hv : VR w' w'.heap.size AW nw vs) =>
    show QR w' g T l (px T.f T.n (0, 0)) nw vs from ⟨AH, cH, AV, cV, AR, cR, AI, cI, AW, cW, by rw [reads_len hI]; exact hk, h.later hb, ⟨by rw [reads_len hI]; exact (hI.below hb).more hb.size, by rw [reads_len hI]; exact hcI⟩, hv⟩)
  have VA := Lib.hid (fun w' (g : Nat) nw vs (k : Nat) (hb : Below w.heap.size w w') (hq : QR w' g T l (px T.f T.n (0, 0)) nw vs) (hk : k < nwv T.sy) => view_any g T l _ nw vs k w' hq (hM.below hb hM.1) hd (by have : nwv T.sy ≤ 8 := (by unfold nwv ns; split; omega; split; omega; split <;> omega); omega) (hkp k hk) (reads_len hI))
  have HM := Lib.hid hM
  have VWL := Lib.hid (fun k => vw_len T.f T.n l k T.n)
  have AO := Lib.hid (fun e w' g (he : e = Ending.returned (.pointer (some ⟨g, 0, none⟩))) (hq : QR w' g T l (px T.f T.n (0, 0)) (nwv T.sy) (fun k => vw T.f T.n l k T.n)) (hb : Below w.heap.size w w') => show AskOut T l w e w' from ⟨g, he, hq, hb⟩)
  have hn := hd.1.2
  have hn1 : 0 < T.n := hd.1.1
  generalize hgQ : QR = QP at QW VA AO
  generalize AskOut T l w = AOut at AO ⊢
  have SN := Lib.hid (fun w => symmetries_any T.sy w)
  have NW := Lib.hid (show nwv T.sy = if T.sy = 3 then 0 else ns T.sy from rfl)
  have NB := Lib.hid (show nwv T.sy ≤ 8 by unfold nwv ns; split; omega; split; omega; split <;> omega)
  obtain ⟨st, ky, n, f, nv, v, nr, ri, ro⟩ := T
  simp only at *
  generalize px f n (0, 0) = ce at CE QW VA AO
  generalize nwv ky = m at VA AO NW NB
  clear h hI hd hkp hM
  go_enter Tryz.func13, Tryz.ntmps13
  go_wp2_with fail
  obtain ⟨tb, htb⟩ : ∃ tb, tb = w.heap.size := ⟨_, rfl⟩
  generalize w.alloc (.cells #[.int .i64 st, .int .i64 ky, .slice AH n cH, .slice AV nv cV, .slice AR nr cR] 26) = w0 at K0 B0 ⊢
  rw [← htb] at K0 ⊢
  have K0 := Lib.hid K0
  have B0 := Lib.hid B0
  have HTB := Lib.hid htb
  clear htb
  have q0 := fun p : LowW w0.heap.size w0 => (K0.out.below p.below K0.out.lt).five.1
  have q1 := fun p : LowW w0.heap.size w0 => (K0.out.below p.below K0.out.lt).five.2.1
  have q2 := fun p : LowW w0.heap.size w0 => (K0.out.below p.below K0.out.lt).five.2.2.1
  have q3 := fun p : LowW w0.heap.size w0 => (K0.out.below p.below K0.out.lt).five.2.2.2.1
  have q4 := fun p : LowW w0.heap.size w0 => (K0.out.below p.below K0.out.lt).five.2.2.2.2.1
  refine wp_region_low_tail w0.heap.size w0 5 (by kernel_rfl) (by kernel_rfl) (Below.refl _ _) ?_
  repeat (quiet_step (first | (go_at_call 35; with_reducible exact LowW.of_call _ (Nat.le_refl _) (CE.out _ (B0.out.trans ((LowW.below _).mono B0.out.size))))))
  refine wpQuiet_nil ?_
  rintro w2 ⟨p, rfl⟩
  have B2 := Lib.hid (B0.out.trans (p.below.mono B0.out.size))
  have K2 := Lib.hid (K0.out.below p.below K0.out.lt)
  clear q0 q1 q2 q3 q4
  generalize p.w = w2 at B2 K2 ⊢
  obtain ⟨gq, hgq⟩ : ∃ gq, gq = w2.heap.size := ⟨_, rfl⟩
  have N3 := Blk.new w2 51 #[.int .i64 st, .int .i64 ky, .slice AH n cH, .slice AV nv cV, .slice AR nr cR, .slice AI n cI, .int .i64 ce, .slice none 0 0]
  rw [← hgq] at N3
  have N3 := Lib.hid N3
  have K3 := Lib.hid (K2.out.alloc (.cells #[.int .i64 st, .int .i64 ky, .slice AH n cH, .slice AV nv cV, .slice AR nr cR, .slice AI n cI, .int .i64 ce, .slice none 0 0] 51))
  have B3 := Lib.hid (B2.out.alloc B2.out.size (.cells #[.int .i64 st, .int .i64 ky, .slice AH n cH, .slice AV nv cV, .slice AR nr cR, .slice AI n cI, .int .i64 ce, .slice none 0 0] 51))
  have hwq : w.heap.size ≤ gq := by rw [hgq]; exact B2.out.size
  go_upto_region 2 with (fail)
  rw [← hgq]
  clear hgq
  generalize w2.alloc (.cells #[.int .i64 st, .int .i64 ky, .slice AH n cH, .slice AV nv cV, .slice AR nr cR, .slice AI n cI, .int .i64 ce, .slice none 0 0] 51) = w3 at N3 K3 B3 ⊢
  obtain ⟨t0, t1, t2, t3, t4, t5⟩ := K3.out.five
  by_cases h3 : ky = 3
  · have hm := NW.out
    rw [if_pos h3] at hm
    subst h3
    subst hm
    go_wp2
    exact AO.out _ _ gq rfl (QW.out _ gq none 0 0 _ B3.out N3.out (fun h => absurd h (by omega))) B3.out
  · have hm := NW.out
    rw [if_neg h3] at hm
    have e3 : (ky == 3) = false := by rw [beq_eq_false_iff_ne]; exact h3
    have SN2 := SN.out
    rw [← hm] at SN2
    have SNH := Lib.hid SN2
    have NBB := NB.out
    clear SN2 hm h3
    go_wp2_with (go_at_call 36; (with_reducible refine (SNH.out _).mono ?_); rintro e w' ⟨rfl, rfl⟩)
    go_loopw [21] (fun jv wr => ∃ (j : Nat) (AW : Option Addr) (cW : Nat), j ≤ m ∧ jv = .int .i64 (j : Int) ∧ Blk wr gq 51 #[.int .i64 st, .int .i64 ky, .slice AH n cH, .slice AV nv cV, .slice AR nr cR, .slice AI n cI, .int .i64 ce, .slice AW j cW] ∧ OL wr w.heap.size AW j cW n (fun k => vw f n l k n) gq ∧ Below w.heap.size w wr) (fun jv _ => m - (intOf jv).toNat)
    case atStart => exact ⟨0, none, 0, Nat.zero_le _, rfl, N3.out, ⟨[], World.ownsRow_nil _ _ _ _, by simp [Value.ownBlock], fun k hk => absurd hk (by omega)⟩, B3.out⟩
    case round =>
      obtain ⟨j, AW, cW, hj, rfl, hk, hol, hbel⟩ := hrel
      have HB := Lib.hid hbel
      have HK := Lib.hid hk
      have HO := Lib.hid hol
      have hsz := hbel.size
      have HQ := Lib.hid (QW.out wr.drew gq AW j cW (fun k => vw f n l k n) hbel.drew hk (hol.vr (fun k _ => VWL.out k)))
      clear hk hol hbel t0 t1 t2 t3 t4 t5
      by_cases hjm : j < m
      · have P1 := Lib.hid (VA.out wr.drew gq j _ j HB.out.drew HQ.out hjm)
        obtain ⟨xs, hown, hob, hxs⟩ := HO.out
        obtain ⟨c0, c1, c2, c3, c4, c5, c6, c7, c8⟩ := HK.out.eight
        have c7f := HK.out.frozen 7
        have P1 := Lib.hid (show Calls Tryz.prog 37 #[.pointer (some ⟨gq, 0, none⟩), .int .i64 (j : Int)] wr.drew fun e w' => ∃ A' c', e = .returned (.slice A' n c') ∧ Reads w' w'.heap.size A' n (il (vw f n l j n)) ∧ (0 < n → ∀ ad, A' = some ad → wr.heap.size ≤ ad.block) ∧ Below wr.heap.size wr w' from
          P1.out.mono fun e w' ⟨A', c', he, h1, h3, h2⟩ => ⟨A', c', by rw [he, VWL.out], by rw [VWL.out] at h1; exact h1, by rw [VWL.out] at h3; exact h3, ⟨h2.os, h2.tape, h2.output, h2.size, h2.block⟩⟩)
        go_wp2_with fail
        go_region_law (first
          | (refine step_append_lies _ (by rfl) _ _ _ (by rfl) w.heap.size 27 i0 (.slice none 0 0) 1 24 Tryz.underlying23 hi hz0 hz1 hz2 rfl (by decide) (.slice AW j cW) j xs (by rfl) (ownA.alloc _) ⟨wa.heap.size, 0, none⟩ 1 1 [.slice A' n c'] (by rfl) (by rfl) (World.news_of_block (cs := #[.slice A' n c']) (t := 27) (fr := (0, 0)) (heap_alloc_new wa _)) (by simp [Value.oneCell']) (by omega) (by unfold maxLen; omega) (by omega) (by have := ha.size; simp; omega) (wa.heap.size + 1) (by simp) ?_; intro gg cap w1 hown1 hgrow hat hlt; have hke := (show Blk w1 gq _ _ from (hgrow.block gq (by have := ka.lt; simp; omega) (fun e => hob e.symm)).trans (ka.alloc _)); have e7 := hke.eight.2.2.2.2.2.2.2.1; have e7f := hke.frozen 7)
          | (go_simp; go_at_call 37; (with_reducible refine P1.out.mono ?_); rintro e wa ⟨A', c', rfl, h1, hAd, ha⟩; have ownA := own_below hown ha; have ka := HK.out.below ha HK.out.lt; have d7 := ka.eight.2.2.2.2.2.2.2.1; have d7f := ka.frozen 7; have dd7 := (ka.alloc (.cells #[.slice A' n c'] 27)).eight.2.2.2.2.2.2.2.1))
        all_goals
          go_wp2
          go_roundw
          case rel => exact ⟨j + 1, some ⟨gg, 0, none⟩, cap, by omega, by go_num, hke.set_ 7 _, OL.step (vs := fun k => vw f n l k n) _ 7 hown hob hxs ha h1 hAd hn1 hown1 hgrow hat HK.out.lt, ((HB.out.trans (ha.mono hsz)).trans ((Below.grown ((Below.refl w.heap.size wa).alloc (by have := ha.size; omega) _) hgrow (by have := ha.size; simp; omega) (fun k hk => (hown.lt k hk).1)))).setCell (p := ⟨gq, 7, none⟩) hwq _⟩
          case measure => simp [intOf]; omega
      · obtain rfl : j = m := by omega
        go_wp2
        exact AO.out _ _ gq rfl (QW.out _ gq AW j cW _ HB.out HK.out (HO.out.vr (fun k _ => VWL.out k))) HB.out
end Go.Proofs.YtedjjhaopohibaaGreatDoor
namespace Go.Proofs.YtedjjhaopohibaaGreatDoor
open Go.RowKit

/-- the answer of a row -/
def av (T : Tab) (l : List Int) (r : List Int) (o : Int) : Int × Bool :=
  if T.sy = 3 then pm T.v r o (px T.f T.n (0, 0)) (ig l (px T.f T.n (0, 0)).toNat) (cl8 l T.n) else ta T.st T.v r o (fun k => vw T.f T.n l k T.n) (nwv T.sy)
theorem Rt.bd {T : Tab} (h : Rt T) : (∀ k, k < T.nv → (T.v k).length ≤ 1000) ∧ Vd T.v T.nv T.st := by
  have := vd_of h.s2 h.vs
  exact ⟨fun k hk => by have := (this k hk).1; omega, this⟩
theorem Rt.nine {T : Tab} (h : Rt T) (h3 : T.sy = 3) : T.n ≤ 9 := by
  have := h.pm
  rw [h3] at this
  exact of_decide_eq_true this
theorem keeps0 (f : Nat → P2) (n : Nat) : Keeps f n 0 := fun i hi => ⟨i, hi, by simp [tn, turnX, turnY]⟩
theorem keeps_sy {f : Nat → P2} {n k : Nat} (h : k ∈ sy f n 8) : Keeps f n k := fun i hi => by
  have h1 := (List.mem_filter.1 h).2
  rw [sk, decide_eq_true_iff] at h1
  have h2 := h1.mem_iff.1 (lst_mem.2 ⟨i, hi, rfl⟩)
  exact lst_mem.1 h2
theorem Rt.keeps {T : Tab} (h : Rt T) : ∀ k, k < nwv T.sy → Keeps T.f T.n k := by
  intro k hk
  have hp := h.pm
  unfold pmt at hp
  unfold nwv ns at hk
  by_cases h0 : T.sy = 0
  · rw [h0] at hk
    have hk : k < 1 := hk
    obtain rfl : k = 0 := by omega
    exact keeps0 T.f T.n
  · rw [if_neg h0] at hp
    by_cases h3 : T.sy = 3
    · rw [if_pos h3] at hk; omega
    · rw [if_neg h3] at hp hk
      by_cases h12 : T.sy = 1 ∨ T.sy = 2
      · rw [if_pos h12, own_iff] at hp
        exact keeps_sy (hp k hk)
      · rw [if_neg h12] at hp; cases hp
theorem px_bd (f : Nat → P2) (n : Nat) (a : P2) : -1 ≤ px f n a ∧ (px f n a < n ∨ px f n a = -1) := by
  rcases fx_cases (fun i => decide (f i = a)) n with ⟨j, hj, e, _⟩ | ⟨e, _⟩ <;> rw [px, e] <;> omega

set_option maxRecDepth 100000 in
set_option maxHeartbeats 2000000 in
theorem answer_any (g : Nat) (T : Tab) (l : List Int) (AI : Option Addr) (cI : Nat) (r : List Int) (o : Int) (w : World)
    (h : QR w g T l (px T.f T.n (0, 0)) (nwv T.sy) (fun k => vw T.f T.n l k T.n)) (ht : Rt T) (hI : Reads w w.heap.size AI T.n (il r)) (hr : rr T.n T.st T.nv r o = true) (hli : l.length = T.n) (hst : als T.st l = true) :
    Calls Tryz.prog 14 #[.pointer (some ⟨g, 0, none⟩), .agg #[.slice AI T.n cI, .int .i64 o]] w fun e w' => AnsOut (av T l r o) w e w' := by
  have hb := px_bd T.f T.n (0, 0)
  have hn := ht.hd.1.2
  have hn0 := ht.hd.1.1
  have PE := Lib.hid (fun w' (hb' : Below w.heap.size w w') (h3 : T.sy = 3) => permuted_any g T l (px T.f T.n (0, 0)) _ _ AI cI r o w' (h.later hb') ((hI.below hb').more hb'.size) (rw_of hr) ht.bd.2 ht.s2 (ht.nine h3) (by omega) hb.1 hli (fun i hi => (als_iff _ _).1 hst i (by rw [hli]; exact hi)) (by have := ht.v1; omega))
  have TU := Lib.hid (fun w' (hb' : Below w.heap.size w w') => turned_any g T l (px T.f T.n (0, 0)) _ _ AI cI r o w' (h.later hb') ((hI.below hb').more hb'.size) (rw_of hr) (fun k _ => vw_len ..) (show nwv T.sy ≤ 8 by unfold nwv ns; split; omega; split; omega; split <;> omega) (by omega) (by have := ht.v1; omega) ht.bd.1)
  have AV := Lib.hid (show av T l r o = if T.sy = 3 then pm T.v r o (px T.f T.n (0, 0)) (ig l (px T.f T.n (0, 0)).toNat) (cl8 l T.n) else ta T.st T.v r o (fun k => vw T.f T.n l k T.n) (nwv T.sy) from rfl)
  generalize av T l r o = p at AV ⊢
  generalize pm T.v r o (px T.f T.n (0, 0)) (ig l (px T.f T.n (0, 0)).toNat) (cl8 l T.n) = p1 at PE AV
  generalize ta T.st T.v r o (fun k => vw T.f T.n l k T.n) (nwv T.sy) = p2 at TU AV
  obtain ⟨AH, cH, AV', cV, AR, cR, AQ, cQ, AW, cW, hk, -, -, -⟩ := h
  have K1 := Blk.new w 47 #[.slice AI T.n cI, .int .i64 o]
  have KA := hk.alloc (.cells #[.slice AI T.n cI, .int .i64 o] 47)
  have B1 := (Below.refl w.heap.size w).alloc (Nat.le_refl _) (.cells #[.slice AI T.n cI, .int .i64 o] 47)
  generalize px T.f T.n (0, 0) = ce at KA hk
  generalize T.n = n at PE TU K1 KA B1 ⊢
  generalize T.sy = ky at PE AV KA
  clear ht hI hr hst hk
  go_enter Tryz.func14, Tryz.ntmps14
  go_upto_region 1 with (fail)
  generalize w.alloc (.cells #[.slice AI n cI, .int .i64 o] 47) = w0 at K1 KA B1 ⊢
  obtain ⟨q0, q1, q2, q3, q4, q5, q6, q7, q8⟩ := KA.eight
  obtain ⟨k0, k1, k2, k3, k4⟩ := K1.two
  have B1 := Lib.hid B1
  by_cases h3 : ky = 3
  · have PE3 := Lib.hid (PE.out w0 B1.out h3)
    have hp := AV.out
    rw [if_pos h3] at hp
    have HP := Lib.hid hp
    have e3 : (ky == 3) = true := by rw [beq_iff_eq]; exact h3
    clear hp h3
    go_wp2_with (go_at_call 38; (with_reducible refine PE3.out.mono ?_); rintro e w1 ⟨rfl, hb⟩; have B2 := Lib.hid (B1.out.trans (hb.mono B1.out.size)); clear hb)
    go_ret2
    exact ⟨by rw [HP.out]; rfl, B2.out⟩
  · have TU3 := Lib.hid (TU.out w0 B1.out)
    have hp := AV.out
    rw [if_neg h3] at hp
    have HP := Lib.hid hp
    have e3 : (ky == 3) = false := by rw [beq_eq_false_iff_ne]; exact h3
    clear hp h3
    go_wp2_with (go_at_call 39; (with_reducible refine TU3.out.mono ?_); rintro e w1 ⟨rfl, hb⟩; have B2 := Lib.hid (B1.out.trans (hb.mono B1.out.size)); clear hb)
    go_ret2
    exact ⟨by rw [HP.out]; rfl, B2.out⟩

/-- the new state -/
def nx (T : Tab) (l : List Int) : Int :=
  if 0 ≤ fx (fun k => (av T l (T.ri k) (T.ro k)).2) T.nr then (av T l (T.ri (fx (fun k => (av T l (T.ri k) (T.ro k)).2) T.nr).toNat) (T.ro (fx (fun k => (av T l (T.ri k) (T.ro k)).2) T.nr).toNat)).1
  else if px T.f T.n (0, 0) < 0 then 0 else ig l (px T.f T.n (0, 0)).toNat
theorem nx_row {T : Tab} {l : List Int} {k : Nat} (hk : k < T.nr) (hb : ∀ i, i < k → (av T l (T.ri i) (T.ro i)).2 = false) (h : (av T l (T.ri k) (T.ro k)).2 = true) : nx T l = (av T l (T.ri k) (T.ro k)).1 := by
  rw [nx, fx_some hk hb h, if_pos (by omega)]
  rfl
theorem nx_none {T : Tab} {l : List Int} (hb : ∀ i, i < T.nr → (av T l (T.ri i) (T.ro i)).2 = false) : nx T l = if px T.f T.n (0, 0) < 0 then 0 else ig l (px T.f T.n (0, 0)).toNat := by
  rw [nx, fx_none hb]
  rfl
set_option maxRecDepth 100000 in
set_option maxHeartbeats 4000000 in
theorem next_state (AH : Option Addr) (cH : Nat) (AV : Option Addr) (cV : Nat) (AR : Option Addr) (cR : Nat) (T : Tab) (AI : Option Addr) (cI : Nat) (l : List Int) (w : World) (hM : Mat w) (h : TR w AH AV AR T) (hb : Bd T) (ht : Rt T) (hI : Reads w w.heap.size AI T.n (il l)) (hst : als T.st l = false) :
    Calls Tryz.prog 6 #[.agg #[.int .i64 T.st, .int .i64 T.sy, .slice AH T.n cH, .slice AV T.nv cV, .slice AR T.nr cR], .slice AI T.n cI] w fun e w' => e = .returned (.tuple #[.int .i64 0, .int .i64 10]) ∧ Below w.heap.size w w' := by
  have RT := Lib.hid (fun w' (hb' : Below w.heap.size w w') => rt_any AH cH AV cV AR cR T w' (hM.below hb' hM.1) (h.later hb') hb)
  rw [(rt_iff T).2 ht] at RT
  have AL := Lib.hid (fun w' (hb' : Below w.heap.size w w') => allStates_any AI T.n cI w'.heap.size l w' T.st ((hI.below hb').more hb'.size) (by have := hb.1; omega))
  rw [hst] at AL
  have K0 := Blk.new w 26 #[.int .i64 T.st, .int .i64 T.sy, .slice AH T.n cH, .slice AV T.nv cV, .slice AR T.nr cR]
  have B0 := (Below.refl w.heap.size w).alloc (Nat.le_refl _) (.cells #[.int .i64 T.st, .int .i64 T.sy, .slice AH T.n cH, .slice AV T.nv cV, .slice AR T.nr cR] 26)
  clear h hb ht hI hst hM
  obtain ⟨st, ky, n, f, nv, v, nr, ri, ro⟩ := T
  simp only at *
  have hnn : ((n : Int) != (n : Int)) = false := by rw [bne_eq_false_iff_eq]
  go_enter Tryz.func6, Tryz.ntmps6
  go_wp2_with fail
  generalize w.alloc (.cells #[.int .i64 st, .int .i64 ky, .slice AH n cH, .slice AV nv cV, .slice AR nr cR] 26) = w0 at K0 B0 ⊢
  obtain ⟨t0, t1, t2, t3, t4, t5⟩ := K0.five
  have K0 := Lib.hid K0
  have B0 := Lib.hid B0
  go_wp2_with (first
    | (go_at_call 9; (with_reducible refine (RT.out _ B0.out).mono ?_); rintro e w1 ⟨rfl, hb⟩; have B1 := Lib.hid (B0.out.trans (hb.mono B0.out.size)); obtain ⟨u0, u1, u2, u3, u4, u5⟩ := (K0.out.below hb K0.out.lt).five; clear hb)
    | (go_at_call 12; (with_reducible refine (AL.out _ B1.out).mono ?_); rintro e w2 ⟨rfl, rfl⟩))
  go_ret2
  exact ⟨rfl, B1.out⟩
set_option maxRecDepth 100000 in
set_option maxHeartbeats 4000000 in
theorem next_ok (AH : Option Addr) (cH : Nat) (AV : Option Addr) (cV : Nat) (AR : Option Addr) (cR : Nat) (T : Tab) (AI : Option Addr) (cI : Nat) (l : List Int) (w : World) (hM : Mat w) (h : TR w AH AV AR T) (hb : Bd T) (ht : Rt T) (hI : Reads w w.heap.size AI T.n (il l)) (hcI : T.n ≤ cI) (hst : als T.st l = true) :
    Calls Tryz.prog 6 #[.agg #[.int .i64 T.st, .int .i64 T.sy, .slice AH T.n cH, .slice AV T.nv cV, .slice AR T.nr cR], .slice AI T.n cI] w fun e w' => e = .returned (.tuple #[.int .i64 (nx T l), .int .i64 0]) ∧ Below w.heap.size w w' := by
  have hli := reads_len hI
  have RT := Lib.hid (fun w' (hb' : Below w.heap.size w w') => rt_any AH cH AV cV AR cR T w' (hM.below hb' hM.1) (h.later hb') hb)
  rw [(rt_iff T).2 ht] at RT
  have AL := Lib.hid (fun w' (hb' : Below w.heap.size w w') => allStates_any AI T.n cI w'.heap.size l w' T.st ((hI.below hb').more hb'.size) (by have := hb.1; omega))
  rw [hst] at AL
  have AS := Lib.hid (fun w' (hb' : Below w.heap.size w w') => ask_any AH cH AV cV AR cR T AI cI l w' (hM.below hb' hM.1) (h.later hb') ht.hd ((hI.below hb').more hb'.size) hcI ht.keeps)
  have AN := Lib.hid (fun w' g A' c' k (hk : k < T.nr) (hq : QR w' g T l (px T.f T.n (0, 0)) (nwv T.sy) (fun k => vw T.f T.n l k T.n)) (hr : Reads w' w'.heap.size A' T.n (il (T.ri k))) => answer_any g T l A' c' (T.ri k) (T.ro k) w' hq ht hr (ht.rs k hk) hli hst)
  have RLEN := Lib.hid (fun k (hk : k < T.nr) => (rw_of (ht.rs k hk)).len)
  have HR := Lib.hid (fun w' (hb' : Below w.heap.size w w') => h.2.2.later hb')
  have HI := Lib.hid (fun w' (hb' : Below w.heap.size w w') => (show Reads w' w'.heap.size AI T.n (il l) from (hI.below hb').more hb'.size))
  have NR := Lib.hid (fun k hk hb h => nx_row (T := T) (l := l) (k := k) hk hb h)
  have NN := Lib.hid (fun hb => nx_none (T := T) (l := l) hb)
  have PB := px_bd T.f T.n (0, 0)
  have QL := Lib.hid (fun w' w'' g (hq : QR w' g T l (px T.f T.n (0, 0)) (nwv T.sy) (fun k => vw T.f T.n l k T.n)) (hb : Below w'.heap.size w' w'') => hq.later hb)
  have QC := Lib.hid (fun w' g (hq : QR w' g T l (px T.f T.n (0, 0)) (nwv T.sy) (fun k => vw T.f T.n l k T.n)) => show w'.cell? ⟨g, 6, none⟩ = some (.int .i64 (px T.f T.n (0, 0))) from by
    obtain ⟨AH, cH, AV', cV, AR, cR, AQ, cQ, AW, cW, hk, -, -, -⟩ := hq
    exact hk.eight.2.2.2.2.2.2.1)
  have hbd := hb.2.2.1
  have hbn := hb.1
  have K0 := Blk.new w 26 #[.int .i64 T.st, .int .i64 T.sy, .slice AH T.n cH, .slice AV T.nv cV, .slice AR T.nr cR]
  have B0 := (Below.refl w.heap.size w).alloc (Nat.le_refl _) (.cells #[.int .i64 T.st, .int .i64 T.sy, .slice AH T.n cH, .slice AV T.nv cV, .slice AR T.nr cR] 26)
  generalize nx T l = res at NR NN ⊢
  have hnn : ((T.n : Int) != (T.n : Int)) = false := by rw [bne_eq_false_iff_eq]
  have HLI := Lib.hid hli
  clear h hb ht hI hst hM hli
  go_enter Tryz.func6, Tryz.ntmps6
  go_wp2_with fail
  generalize w.alloc (.cells #[.int .i64 T.st, .int .i64 T.sy, .slice AH T.n cH, .slice AV T.nv cV, .slice AR T.nr cR] 26) = w0 at K0 B0 ⊢
  obtain ⟨t0, t1, t2, t3, t4, t5⟩ := K0.five
  have K0 := Lib.hid K0
  have B0 := Lib.hid B0
  go_wp2_with (first
    | (go_at_call 9; (with_reducible refine (RT.out _ B0.out).mono ?_); rintro e w1 ⟨rfl, hb⟩; have B1 := Lib.hid (B0.out.trans (hb.mono B0.out.size)); have K1 := Lib.hid (K0.out.below hb K0.out.lt); obtain ⟨u0, u1, u2, u3, u4, u5⟩ := K1.out.five; clear hb)
    | (go_at_call 12; (with_reducible refine (AL.out _ B1.out).mono ?_); rintro e w2 ⟨rfl, rfl⟩)
    | (go_at_call 13; (with_reducible refine (AS.out _ B1.out).mono ?_); rintro e w3 ⟨g, rfl, hq, hb⟩; have B3 := Lib.hid (B1.out.trans (hb.mono B1.out.size)); have Q3 := Lib.hid hq; obtain ⟨v0, v1, v2, v3, v4, v5⟩ := (K1.out.below hb K1.out.lt).five; clear hb hq))
  have hs3 := B3.out.size
  clear t0 t1 t2 t3 t4 t5 u0 u1 u2 u3 u4 u5 v0 v1 v2 v3 v4 v5
  go_loopw [35] (fun kv wr => ∃ k : Nat, k ≤ T.nr ∧ kv = .int .i64 (k : Int) ∧ (∀ i, i < k → (av T l (T.ri i) (T.ro i)).2 = false) ∧ Below w3.heap.size w3 wr) (fun kv _ => T.nr - (intOf kv).toNat)
  case atStart => exact ⟨0, Nat.zero_le _, rfl, fun i hi => absurd hi (by omega), Below.refl _ _⟩
  case round =>
    obtain ⟨k, hk, rfl, hno, hbel⟩ := hrel
    have HN := Lib.hid hno
    have HX := Lib.hid hbel
    have B4 := Lib.hid (B3.out.trans (hbel.mono hs3))
    have Q4 := Lib.hid (QL.out _ _ _ Q3.out hbel)
    clear hno hbel
    by_cases hkn : k < T.nr
    · obtain ⟨g1, o1, rfl, hb1, hc⟩ := HR.out _ B4.out (by omega)
      obtain ⟨A', c', hc, hr, hc2⟩ := hc k hkn
      rw [RLEN.out k hkn] at hc hr
      have K6 := Lib.hid (Blk.new wr 47 #[.slice A' T.n c', .int .i64 (T.ro k)])
      have B6 := Lib.hid ((Below.refl wr.heap.size wr).alloc (Nat.le_refl _) (.cells #[.slice A' T.n c', .int .i64 (T.ro k)] 47))
      have AN2 := fun w' (hb : Below wr.heap.size wr w') => AN.out w' g A' c' k hkn (QL.out _ _ _ Q4.out hb) ((hr.below hb).more hb.size)
      have NX := Lib.hid (fun (h : (av T l (T.ri k) (T.ro k)).2 = false) (i : Nat) (hi : i < k + 1) => show (av T l (T.ri i) (T.ro i)).2 = false from by
        by_cases e : i < k
        · exact HN.out i e
        · obtain rfl : i = k := by omega
          exact h)
      have NK := Lib.hid (fun h => NR.out k hkn HN.out h)
      generalize av T l (T.ri k) (T.ro k) = p at AN2 NX NK
      obtain ⟨p1, p2⟩ := p
      generalize T.ro k = o at hc2 K6 B6 AN2
      have AN2 := Lib.hid AN2
      clear hr
      cases p2 with
      | true =>
        have HF := Lib.hid (NK.out rfl)
        go_upto_region 9 with (fail)
        generalize wr.alloc (.cells #[.slice A' T.n c', .int .i64 o] 47) = w5 at K6 B6 ⊢
        obtain ⟨r0, r1, r2, r3, r4⟩ := K6.out.two
        go_wp2_with (go_at_call 14; (with_reducible refine (AN2.out _ B6.out).mono ?_); rintro e w6 ⟨rfl, hb⟩; have B7 := Lib.hid (B4.out.trans ((B6.out.trans (hb.mono B6.out.size)).mono B4.out.size)); clear hb)
        go_ret2
        exact ⟨by rw [HF.out]; rfl, B7.out⟩
      | false =>
        have HT := Lib.hid (NX.out rfl)
        go_upto_region 9 with (fail)
        generalize wr.alloc (.cells #[.slice A' T.n c', .int .i64 o] 47) = w5 at K6 B6 ⊢
        obtain ⟨r0, r1, r2, r3, r4⟩ := K6.out.two
        go_wp2_with (go_at_call 14; (with_reducible refine (AN2.out _ B6.out).mono ?_); rintro e w6 ⟨rfl, hb⟩; have B7 := Lib.hid (HX.out.trans ((B6.out.trans (hb.mono B6.out.size)).mono HX.out.size)); clear hb)
        go_roundw
        case rel => exact ⟨k + 1, by omega, by go_num, HT.out, B7.out⟩
        case measure => simp [intOf]; omega
    · obtain rfl : k = T.nr := by omega
      have q6 := QC.out _ _ Q4.out
      have HF := NN.out HN.out
      by_cases hce : px T.f T.n (0, 0) < 0
      · rw [if_pos hce] at HF
        have HFH := Lib.hid HF
        clear HF
        go_wp2
        go_ret2
        exact ⟨by rw [HFH.out]; rfl, B4.out⟩
      · rw [if_neg hce] at HF
        obtain ⟨c, hc⟩ : ∃ c : Nat, px T.f T.n (0, 0) = (c : Int) := ⟨(px T.f T.n (0, 0)).toNat, by omega⟩
        rw [hc] at HF q6
        rw [show ((c : Int)).toNat = c from rfl] at HF
        have hcn : c < T.n := by omega
        obtain ⟨ad, rfl, hb1, c1⟩ := il_at (HI.out _ B4.out) hcn
        rw [← HF] at c1
        have d0 : decide ((c : Int) < 0) = false := by rw [decide_eq_false_iff_not]; omega
        clear HF hc hce PB
        go_wp2
        go_ret2
        exact ⟨rfl, B4.out⟩
end Go.Proofs.YtedjjhaopohibaaGreatDoor
namespace Go.Proofs.YtedjjhaopohibaaGreatDoor

/-- the inverse of a symmetry -/
def inv (t : Nat) : Nat := if t < 4 then (4 - t) % 4 else t
theorem comp_bd : ∀ t, t < 8 → ∀ k, k < 8 → comp k (inv t) < 8 ∧ comp k t < 8 ∧ (t < 4 → k < 4 → comp k (inv t) < 4 ∧ comp k t < 4) := by decide +kernel
theorem turn_comp (t : Nat) (ht : t < 8) (k : Nat) (hk : k < 8) (x y : Int) : turnX t (turnX k x y) (turnY k x y) = turnX (comp k t) x y ∧ turnY t (turnX k x y) (turnY k x y) = turnY (comp k t) x y := by
  refine eight (P := fun t => turnX t (turnX k x y) (turnY k x y) = turnX (comp k t) x y ∧ turnY t (turnX k x y) (turnY k x y) = turnY (comp k t) x y) ?_ ?_ ?_ ?_ ?_ ?_ ?_ ?_ t ht <;>
  (refine eight (P := fun k => turnX _ (turnX k x y) (turnY k x y) = turnX (comp k _) x y ∧ turnY _ (turnX k x y) (turnY k x y) = turnY (comp k _) x y) ?_ ?_ ?_ ?_ ?_ ?_ ?_ ?_ k hk <;> simp [turnX, turnY, comp])
theorem comp_inv : ∀ t, t < 8 → ∀ k, k < 8 → comp (comp k (inv t)) t = k := by decide +kernel
theorem tn_comp (t k : Nat) (ht : t < 8) (hk : k < 8) (f : Nat → P2) (i j : Nat) (h : f j = tn k f i) : tn t f j = tn (comp k t) f i := by
  unfold tn at *
  rw [h]
  have := turn_comp t ht k hk (f i).1 (f i).2
  simp only [this.1, this.2]
theorem px_at {f : Nat → P2} {n j : Nat} (hu : Up f n) (hj : j < n) : px f n (f j) = (j : Int) :=
  fx_some hj (fun i hi => decide_eq_false (hu.ne i j hi hj)) (decide_eq_true rfl)
/-- states that a symmetry has turned -/
def Turned (f : Nat → P2) (n t : Nat) (l m : List Int) : Prop := ∀ i, i < n → ig m (vi f n t i) = ig l i
theorem vw_turned {f : Nat → P2} {n t k : Nat} {l m : List Int} (hu : Up f n) (ht : t < 8) (hk : k < 8) (h : Turned f n t l m) (k1 : Keeps f n k) : vw f n m (comp k t) n = vw f n l k n := by
  unfold vw
  refine List.map_congr_left fun i hi => ?_
  rw [List.mem_range] at hi
  obtain ⟨h1, h2⟩ := keeps_at k1 hi
  have h3 := tn_comp t k ht hk f i (vi f n k i) h2
  have h4 := h (vi f n k i) h1
  rw [show vi f n t (vi f n k i) = vi f n (comp k t) i by unfold vi; rw [show tn t f (px f n (tn k f i)).toNat = tn (comp k t) f i from h3]] at h4
  exact h4
theorem le_tl {st : Int} {v : Nat → List Int} {l : List Int} {o : Int} {vs : Nat → List Int} {m : Nat} (a : Int) : a ≤ tl st v l o vs m ↔ a ≤ st ∧ ∀ k, k < m → mt v l (vs k) = true → a ≤ so l o (vs k) := by
  induction m with
  | zero => exact ⟨fun h => ⟨h, fun k hk => absurd hk (by omega)⟩, fun h => h.1⟩
  | succ m ih =>
    rw [tl]
    constructor
    · intro h
      split at h
      · have hx : a ≤ tl st v l o vs m ∧ a ≤ so l o (vs m) := by split at h <;> omega
        obtain ⟨h1, h2⟩ := ih.1 hx.1
        refine ⟨h1, fun k hk hmt => ?_⟩
        by_cases e : k < m
        · exact h2 k e hmt
        · obtain rfl : k = m := by omega
          exact hx.2
      · rename_i hn
        obtain ⟨h1, h2⟩ := ih.1 h
        refine ⟨h1, fun k hk hmt => ?_⟩
        by_cases e : k < m
        · exact h2 k e hmt
        · obtain rfl : k = m := by omega
          exact absurd hmt hn
    · rintro ⟨h1, h2⟩
      have h3 := ih.2 ⟨h1, fun k hk => h2 k (by omega)⟩
      split
      · rename_i hmt
        have h4 := h2 m (by omega) hmt
        split <;> omega
      · exact h3
theorem tl_same {st : Int} {v : Nat → List Int} {l : List Int} {o : Int} {vs vs' : Nat → List Int} {m : Nat} (h1 : ∀ k, k < m → ∃ j, j < m ∧ vs' j = vs k) (h2 : ∀ k, k < m → ∃ j, j < m ∧ vs j = vs' k) : tl st v l o vs m = tl st v l o vs' m := by
  have key : ∀ {us ws : Nat → List Int}, (∀ k, k < m → ∃ j, j < m ∧ ws j = us k) → tl st v l o ws m ≤ tl st v l o us m := by
    intro us ws h
    rw [le_tl]
    have h3 := (le_tl (st := st) (v := v) (l := l) (o := o) (vs := ws) (m := m) (tl st v l o ws m)).1 (Int.le_refl _)
    refine ⟨h3.1, fun k hk hmt => ?_⟩
    obtain ⟨j, hj, e⟩ := h k hk
    rw [← e] at hmt ⊢
    exact h3.2 j hj hmt
  exact Int.le_antisymm (key h2) (key h1)
theorem comp_in {N t k : Nat} (hN : N = 4 ∧ t < 4 ∨ N = 8 ∧ t < 8) (hk : k < N) : comp k (inv t) < N ∧ comp k t < N := by
  have hb := comp_bd t (by omega) k (by omega)
  rcases hN with ⟨e, h⟩ | ⟨e, h⟩
  · have h2 := hb.2.2 h (by omega)
    omega
  · omega
theorem av_turned {T : Tab} (ht : Rt T) {t : Nat} (h12 : T.sy = 1 ∧ t < 4 ∨ T.sy = 2 ∧ t < 8) {l m : List Int} (h : Turned T.f T.n t l m) (r : List Int) (o : Int) : av T m r o = av T l r o := by
  have h3 : T.sy ≠ 3 := by omega
  unfold av ta
  rw [if_neg h3, if_neg h3]
  have hN : nwv T.sy = 4 ∧ t < 4 ∨ nwv T.sy = 8 ∧ t < 8 := by
    rcases h12 with ⟨e, h⟩ | ⟨e, h⟩
    · exact .inl ⟨by rw [e]; rfl, h⟩
    · exact .inr ⟨by rw [e]; rfl, h⟩
  have hk := ht.keeps
  have hu := ht.hd.up
  generalize nwv T.sy = N at hN hk ⊢
  have e : tl T.st T.v r o (fun k => vw T.f T.n m k T.n) N = tl T.st T.v r o (fun k => vw T.f T.n l k T.n) N := by
    refine tl_same (fun k hkN => ?_) (fun k hkN => ?_)
    · have hb := comp_bd t (by omega) k (by omega)
      have hc := comp_in hN hkN
      refine ⟨comp k (inv t), hc.1, ?_⟩
      have h4 := vw_turned hu (t := t) (k := comp k (inv t)) (by omega) hb.1 h (hk _ hc.1)
      rw [comp_inv t (by omega) k (by omega)] at h4
      exact h4.symm
    · exact ⟨comp k t, (comp_in hN hkN).2, vw_turned hu (by omega) (by omega) h (hk k hkN)⟩
  rw [e]
theorem tn_zero (t : Nat) (ht : t < 8) (f : Nat → P2) (c : Nat) (h : f c = (0, 0)) : tn t f c = (0, 0) := by
  unfold tn
  rw [h]
  refine eight (P := fun t => (turnX t 0 0, turnY t 0 0) = ((0 : Int), (0 : Int))) ?_ ?_ ?_ ?_ ?_ ?_ ?_ ?_ t ht <;> simp [turnX, turnY]
theorem nx_congr {T : Tab} {l m : List Int} (ha : ∀ r o, av T m r o = av T l r o) (hc : 0 ≤ px T.f T.n (0, 0) → ig m (px T.f T.n (0, 0)).toNat = ig l (px T.f T.n (0, 0)).toNat) : nx T m = nx T l := by
  unfold nx
  rw [show (fun k => (av T m (T.ri k) (T.ro k)).2) = fun k => (av T l (T.ri k) (T.ro k)).2 from funext fun k => by rw [ha], ha]
  split
  · rfl
  · split
    · rfl
    · rw [hc (by omega)]
theorem nx_turned {T : Tab} (ht : Rt T) {t : Nat} (h12 : T.sy = 1 ∧ t < 4 ∨ T.sy = 2 ∧ t < 8) {l m : List Int} (h : Turned T.f T.n t l m) : nx T m = nx T l := by
  refine nx_congr (av_turned ht h12 h) fun h0 => ?_
  rcases fx_cases (fun i => decide (T.f i = (0, 0))) T.n with ⟨c, hc, e, h1, _⟩ | ⟨e, _⟩
  · have h1 := of_decide_eq_true h1
    have e1 : px T.f T.n (0, 0) = (c : Int) := e
    rw [e1, show ((c : Int)).toNat = c from rfl]
    have h2 := h c hc
    have h3 : vi T.f T.n t c = c := by
      unfold vi
      rw [tn_zero t (by omega) T.f c h1, ← h1, px_at ht.hd.up hc]
      rfl
    rw [h3] at h2
    exact h2
  · have e1 : px T.f T.n (0, 0) = -1 := e
    omega

/-- counting behind a change -/
theorem cnt_set {l : List Int} {i : Nat} {a k : Int} (hi : i < l.length) (n : Nat) : cnt (l.set i a) k n = if i < n then cnt l k n - (if ig l i = k then 1 else 0) + (if a = k then 1 else 0) else cnt l k n := by
  induction n with
  | zero => simp [cnt]
  | succ n ih =>
    rw [cnt, cnt, ih, ig_set hi]
    by_cases e : i = n
    · subst e
      simp
      try omega
    · have h2 : ¬ n = i := fun e' => e e'.symm
      simp only [h2, if_false]
      by_cases h : i < n
      · simp only [h, show i < n + 1 by omega, if_true]
        omega
      · simp only [h, show ¬ i < n + 1 by omega, if_false]
/-- two states exchanged -/
def swp (l : List Int) (i j : Nat) : List Int := (l.set i (ig l j)).set j (ig l i)
theorem swp_len (l : List Int) (i j : Nat) : (swp l i j).length = l.length := by simp [swp]
theorem swp_at {l : List Int} {i j : Nat} (hi : i < l.length) (hj : j < l.length) (t : Nat) : ig (swp l i j) t = if t = j then ig l i else if t = i then ig l j else ig l t := by
  rw [swp, ig_set (by simpa using hj), ig_set hi]
theorem cnt_swp {l : List Int} {i j : Nat} {k : Int} (hi : i < l.length) (hj : j < l.length) : cnt (swp l i j) k l.length = cnt l k l.length := by
  rw [swp, cnt_set (by simpa using hj), if_pos hj, cnt_set hi, if_pos hi, ig_set hi]
  by_cases e : j = i
  · subst e
    simp
    try omega
  · rw [if_neg e]
    omega
theorem cl8_swp {l : List Int} {i j : Nat} (hi : i < l.length) (hj : j < l.length) : cl8 (swp l i j) l.length = cl8 l l.length := by
  simp only [cl8, cnt_swp hi hj]
theorem pm_neg (v : Nat → List Int) (l : List Int) (o ce sc sc' : Int) (a : List Int) (h : ce < 0) : pm v l o ce sc a = pm v l o ce sc' a := by
  have hch : ∀ e, ch v l e ce sc = ch v l e ce sc' := fun e => by rw [ch, ch, if_pos h, if_pos h]
  have hps : ∀ r j, ps v l o ce sc r j = ps v l o ce sc' r j := fun r j => by rw [ps, ps, hch]
  have hpf : ∀ j, pf v l o ce sc a j = pf v l o ce sc' a j := fun j => by
    induction j with
    | zero => rfl
    | succ j ih => rw [pf, pf, ih, hps]
  have hpg : ∀ r, pg v l o ce sc r = pg v l o ce sc' r := fun r => funext fun k => by rw [pg, pg, hch]
  simp only [pm, hpf, hch, hpg]
theorem nx_swp {T : Tab} (h3 : T.sy = 3) {l : List Int} {i j : Nat} (hl : l.length = T.n) (hi : i < T.n) (hj : j < T.n) (hic : (i : Int) ≠ px T.f T.n (0, 0)) (hjc : (j : Int) ≠ px T.f T.n (0, 0)) : nx T (swp l i j) = nx T l := by
  have hc : 0 ≤ px T.f T.n (0, 0) → ig (swp l i j) (px T.f T.n (0, 0)).toNat = ig l (px T.f T.n (0, 0)).toNat := fun h0 => by
    rw [swp_at (by omega) (by omega), if_neg (by omega), if_neg (by omega)]
  refine nx_congr (fun r o => ?_) hc
  unfold av
  rw [if_pos h3, if_pos h3, ← hl, cl8_swp (by omega) (by omega), hl]
  by_cases h0 : 0 ≤ px T.f T.n (0, 0)
  · rw [hc h0]
  · exact pm_neg _ _ _ _ _ _ _ (by omega)

/-- the new state is a state -/
theorem av_bd {T : Tab} (ht : Rt T) {l r : List Int} {o : Int} (hr : rr T.n T.st T.nv r o = true) (hl : l.length = T.n) (hs : als T.st l = true) (h2 : (av T l r o).2 = true) : 0 ≤ (av T l r o).1 ∧ (av T l r o).1 < 8 := by
  have hw := rw_of hr
  have s2 := ht.s2
  have s1 := ht.s1
  have hst := (als_iff _ _).1 hs
  by_cases h3 : T.sy = 3
  · have hob : -(T.nv : Int) ≤ o ∧ o < T.st := by
      rcases hw.out with h | h
      · omega
      · obtain ⟨i, hi, rfl⟩ := mem_ig h
        exact hw.els i (by rw [← hw.len]; exact hi)
    unfold av at *
    rw [if_pos h3] at *
    unfold pm at *
    split at h2
    · cases h2
    · rename_i hne
      rw [if_neg hne]
      split at h2
      · rename_i h0
        rw [if_pos h0]
        rcases fx_cases (pg T.v r o (px T.f T.n (0, 0)) (ig l (px T.f T.n (0, 0)).toNat) (pf T.v r o (px T.f T.n (0, 0)) (ig l (px T.f T.n (0, 0)).toNat) (cl8 l T.n) r.length)) (ch T.v r o (px T.f T.n (0, 0)) (ig l (px T.f T.n (0, 0)).toNat)).length with ⟨j, hj, e, _⟩ | ⟨e, _⟩
        · rw [e, show ((j : Int)).toNat = j from rfl]
          exact ch_ig ht.bd.2 s2 r _ _ hob.1 hob.2 j hj
        · rw [e] at h0
          omega
      · cases h2
  · unfold av at *
    rw [if_neg h3] at *
    unfold ta at *
    split at h2
    · cases h2
    · rename_i hne
      rw [if_neg hne]
      have h4 := (le_tl (st := T.st) (v := T.v) (l := r) (o := o) (vs := fun k => vw T.f T.n l k T.n) (m := nwv T.sy) (tl T.st T.v r o (fun k => vw T.f T.n l k T.n) (nwv T.sy))).1 (Int.le_refl _)
      have h5 := (le_tl (st := T.st) (v := T.v) (l := r) (o := o) (vs := fun k => vw T.f T.n l k T.n) (m := nwv T.sy) 0).2 ⟨by omega, fun k hk _ => by
        unfold so
        split
        · rename_i ho
          have hmem : o ∈ r := by
            rcases hw.out with h | h
            · omega
            · exact h
          obtain ⟨i, hi, hix, _⟩ := ix_mem hmem
          rw [hix, show ((i : Int)).toNat = i from rfl]
          have hin : i < T.n := by rw [← hw.len]; exact hi
          have hk2 := (keeps_at (ht.keeps k hk) hin).1
          have : ig (vw T.f T.n l k T.n) i = ig l (vi T.f T.n k i) := by
            unfold vw
            simp [ig, hin, List.getD_eq_getElem?_getD]
          rw [this]
          exact (hst _ (by rw [hl]; exact hk2)).1
        · omega⟩
      dsimp only
      omega
theorem nx_bd {T : Tab} (ht : Rt T) {l : List Int} (hl : l.length = T.n) (hs : als T.st l = true) : 0 ≤ nx T l ∧ nx T l < 8 := by
  have s2 := ht.s2
  have s1 := ht.s1
  rcases fx_cases (fun k => (av T l (T.ri k) (T.ro k)).2) T.nr with ⟨k, hk, e, h1, h2⟩ | ⟨e, h1⟩
  · rw [nx_row hk h2 h1]
    exact av_bd ht (ht.rs k hk) hl hs h1
  · rw [nx_none h1]
    split
    · omega
    · have := px_bd T.f T.n (0, 0)
      have := (als_iff _ _).1 hs (px T.f T.n (0, 0)).toNat (by omega)
      omega
end Go.Proofs.YtedjjhaopohibaaGreatDoor
