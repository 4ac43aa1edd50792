/- The walks of accepts and matches. -/
import Derived.Test.YtcgkkppidkkjiaaGreatDoorMaa
import Derived.Test.YtcgkkppidkkjiaaGreatDoorMab
import Derived.Test.YtcgkkppidkkjiaaGreatDoorMaf
import Derived.Test.YtcgkkppidkkjiaaGreatDoorMad
import Derived.Test.YtcgkkppidkkjiaaGreatDoorMac
import Derived.Test.YtcgkkppidkkjiaaGreatDoorMak
import Derived.Below
import Derived.BigQuiet
import Derived.Deep.AppendLies
import Derived.Deep.CutRange
import Derived.Deep.Draws
import Derived.Deep.QuietTactic
import Derived.IntWalk
import Derived.Laws.BitsLemmas
import Derived.Laws.OwnMore
import Derived.Laws.Rows
import Derived.Lib.Hide
import Derived.Lib.SliceRun
import Derived.LoopN
import Derived.OwnWalk
import Derived.Shelf.SlLaysF0
import Derived.Sort.Grow
import Derived.Sort.Statements
import Derived.StillTail
import Derived.StillTailTactics
import Derived.Test.YtcgkkppidkkjiaaGreatDoorRows
import Derived.WalkKit
namespace Go.Proofs.YtcgkkppidkkjiaaGreatDoor
open Go.RowKit
/-- an element matches a state -/
def ac (v : Nat → List Int) (e s : Int) : Bool := if 0 ≤ e then decide (e = s) else decide (s ∈ v (-1 - e).toNat)
theorem VR.at_ {w : World} {B n k : Nat} {A : Option Addr} {v : Nat → List Int} (h : VR w B A n v) (hk : k < n) : ∃ ad A' c', A = some ad ∧ ad.block < B ∧ w.cell? (ad.add k) = some (.slice A' (v k).length c') ∧ Reads w B A' (v k).length (il (v k)) := by
  obtain ⟨ad, e, hg, hc⟩ := h (by omega)
  obtain ⟨A', c', h1, h2⟩ := hc k hk
  exact ⟨ad, A', c', e, hg, h1, h2⟩
set_option maxRecDepth 100000 in
theorem accepts_any (g : Nat) (AV : Option Addr) (nv cV B : Nat) (v : Nat → List Int) (e s : Int) (w : World) (hc : w.cell? ⟨g, 3, none⟩ = some (.slice AV nv cV)) (hV : VR w B AV nv v) (he : -(nv : Int) ≤ e) (hn : nv ≤ 1000) (hl : ∀ k, k < nv → (v k).length ≤ 1000) :
    Calls Tryz.prog 114 #[.pointer (some ⟨g, 0, none⟩), .int .i64 e, .int .i64 s] w fun e' w' => e' = .returned (.bool (ac v e s)) ∧ w = w' := by
  by_cases h0 : 0 ≤ e
  · have HF := Lib.hid (show ac v e s = decide (e = s) by rw [ac, if_pos h0])
    clear hV hl he
    by_cases hs : e = s
    · have ht : (e == s) = true := by rw [beq_iff_eq]; exact hs
      rw [decide_eq_true hs] at HF
      clear hs
      go_enter Tryz.func114, Tryz.ntmps114
      go_wp2
      go_ret
      exact ⟨ret_bool HF.out.symm, rfl⟩
    · have ht : (e == s) = false := by rw [beq_eq_false_iff_ne]; exact hs
      rw [decide_eq_false hs] at HF
      clear hs
      go_enter Tryz.func114, Tryz.ntmps114
      go_wp2
      go_ret
      exact ⟨ret_bool HF.out.symm, rfl⟩
  · obtain ⟨k, hk⟩ : ∃ k : Nat, -1 - e = (k : Int) := ⟨(-1 - e).toNat, by omega⟩
    have HF := Lib.hid (show ac v e s = decide (s ∈ v k) by rw [ac, if_neg h0, hk]; rfl)
    have hkn : k < nv := by omega
    obtain ⟨ad, A', c', rfl, hb, hc2, hr⟩ := hV.at_ hkn
    have CO := Lib.hid (contains_any A' (v k).length c' B (v k) s w hr (by have := hl k hkn; omega))
    have e0 : decide (0 ≤ e) = false := decide_eq_false h0
    generalize decide (s ∈ v k) = q at CO HF
    generalize (v k).length = m at hc2 CO
    clear hV hl hr
    go_enter Tryz.func114, Tryz.ntmps114
    go_wp2_with (go_at_call 68; (with_reducible refine CO.out.mono ?_); rintro e w' ⟨rfl, rfl⟩)
    go_ret
    exact ⟨ret_bool HF.out.symm, rfl⟩
theorem ix_self {l : List Int} {i : Nat} (hi : i < l.length) : ∃ k : Nat, k ≤ i ∧ ix l (ig l i) = (k : Int) := by
  rcases fx_cases (fun j => decide (ig l j = ig l i)) l.length with ⟨j, hj, e, h1, h2⟩ | ⟨e, h1⟩
  · refine ⟨j, ?_, e⟩
    rcases Nat.lt_or_ge i j with h | h
    · have := h2 i h
      simp at this
    · exact h
  · have := h1 i hi
    simp at this
/-- element i matches -/
def mi (v : Nat → List Int) (l vw : List Int) (i : Nat) : Bool := decide (ig vw i = ig vw (ix l (ig l i)).toNat) && (decide ((ix l (ig l i)).toNat ≠ i) || ac v (ig l i) (ig vw i))
/-- the row, as it is, matches -/
def mt (v : Nat → List Int) (l vw : List Int) : Bool := (List.range l.length).all fun i => mi v l vw i
theorem mt_iff (v : Nat → List Int) (l vw : List Int) : mt v l vw = true ↔ ∀ i, i < l.length → mi v l vw i = true := by simp [mt, List.all_eq_true]
theorem mt_no {v : Nat → List Int} {l vw : List Int} {i : Nat} (hi : i < l.length) (h : mi v l vw i = false) : mt v l vw = false := by
  rw [← Bool.not_eq_true, mt_iff]
  intro h'
  rw [h' i hi] at h
  cases h

set_option maxRecDepth 100000 in
set_option maxHeartbeats 4000000 in
theorem matches_any (g : Nat) (AV : Option Addr) (nv cV : Nat) (v : Nat → List Int) (AI : Option Addr) (n cI : Nat) (l : List Int) (o : Int) (AW : Option Addr) (cW : Nat) (vw : List Int) (w : World)
    (hg : g < w.heap.size) (hc : w.cell? ⟨g, 3, none⟩ = some (.slice AV nv cV)) (hV : VR w w.heap.size AV nv v) (hI : Reads w w.heap.size AI n (il l)) (hW : Reads w w.heap.size AW n (il vw)) (he : ∀ i, i < n → -(nv : Int) ≤ ig l i)
    (hn : n ≤ 1000) (hnv : nv ≤ 1000) (hl : ∀ k, k < nv → (v k).length ≤ 1000) :
    Calls Tryz.prog 100 #[.pointer (some ⟨g, 0, none⟩), .agg #[.slice AI n cI, .int .i64 o], .slice AW n cW] w fun e w' => e = .returned (.bool (mt v l vw)) ∧ Below w.heap.size w w' := by
  have HL := Lib.hid (reads_len hI)
  have HI := Lib.hid hI
  have HW := Lib.hid hW
  have HE := Lib.hid he
  have K1 := Lib.hid (Blk.new w 41 #[.slice AI n cI, .int .i64 o])
  have B1 := Lib.hid ((Below.refl w.heap.size w).alloc (Nat.le_refl _) (.cells #[.slice AI n cI, .int .i64 o] 41))
  have AC := Lib.hid (fun e s w' (hb : Below w.heap.size w w') (he : -(nv : Int) ≤ e) => accepts_any g AV nv cV w.heap.size v e s w' ((hb.cell (p := ⟨g, 3, none⟩) hg).trans hc) (hV.below hb) he hnv hl)
  have MN := Lib.hid (fun i hi h => mt_no (v := v) (l := l) (vw := vw) (i := i) hi h)
  have MY := Lib.hid (mt_iff v l vw).2
  generalize mt v l vw = q at MN MY ⊢
  clear hI hW he hc hV hl
  go_enter Tryz.func100, Tryz.ntmps100
  go_wp2_with fail
  generalize w.alloc (.cells #[.slice AI n cI, .int .i64 o] 41) = w0 at K1 B1 ⊢
  obtain ⟨k0, k1, k2, k3, k4⟩ := K1.out.two
  go_wp2
  go_loopw [13] (fun jv wr => ∃ j : Nat, j ≤ n ∧ jv = .int .i64 (j : Int) ∧ (∀ i, i < j → mi v l vw i = true) ∧ Below w0.heap.size w0 wr) (fun jv _ => n - (intOf jv).toNat)
  case atStart => exact ⟨0, Nat.zero_le _, rfl, fun i hi => absurd hi (by omega), Below.refl _ _⟩
  case round =>
    obtain ⟨j, hj, rfl, hno, hbel⟩ := hrel
    have HX := Lib.hid hbel
    have HB := Lib.hid (B1.out.trans (hbel.mono B1.out.size))
    have HN := Lib.hid hno
    clear hno k0 k1 k2 k3 k4
    obtain ⟨k0, k1, k2, k3, k4⟩ := (K1.out.below hbel K1.out.lt).two
    clear hbel
    by_cases hjn : j < n
    · have hjl : j < l.length := by rw [HL.out]; exact hjn
      obtain ⟨ad, rfl, hb1, c1⟩ := il_at (HI.out.below HB.out) hjn
      obtain ⟨k, hkj, hk⟩ := ix_self hjl
      obtain ⟨ad2, rfl, hb2, c2⟩ := il_at (HW.out.below HB.out) hjn
      obtain ⟨ad3, h3, hb3, c3⟩ := il_at (HW.out.below HB.out) (show k < n by omega)
      obtain rfl : ad2 = ad3 := by injection h3
      have hkn : k < n := by omega
      have IX := fun w' (hb : Below w.heap.size w w') => index_int (some ad) n cI w.heap.size l w' (ig l j) (HI.out.below hb) (by omega)
      have hmi : mi v l vw j = (decide (ig vw j = ig vw k) && (decide (k ≠ j) || ac v (ig l j) (ig vw j))) := by rw [mi, hk]; rfl
      have MN1 := Lib.hid (fun h => MN.out j hjl h)
      have NX := Lib.hid (fun (h : mi v l vw j = true) (i : Nat) (hi : i < j + 1) => show mi v l vw i = true from by
        by_cases e : i < j
        · exact HN.out i e
        · obtain rfl : i = j := by omega
          exact h)
      have AC1 := fun m => AC.out (ig l j) (ig vw j) (wr.drewN m) (below_drewN HB.out m) (HE.out j hjn)
      rw [hk] at IX
      generalize ac v (ig l j) (ig vw j) = qa at AC1 hmi
      generalize mi v l vw j = qm at MN1 NX hmi
      obtain ⟨x, hx⟩ : ∃ x, x = ig l j := ⟨_, rfl⟩
      rw [← hx] at c1 AC1 IX
      have IXH := Lib.hid IX
      clear IX
      obtain ⟨y, hy⟩ : ∃ y, y = ig vw j := ⟨_, rfl⟩
      rw [← hy] at c2 AC1 hmi
      obtain ⟨z, hz⟩ : ∃ z, z = ig vw k := ⟨_, rfl⟩
      rw [← hz] at c3 hmi
      clear h3 hk
      by_cases hyz : y = z
      · by_cases hkj2 : k = j
        · subst hkj2
          rw [decide_eq_true hyz, decide_eq_false (fun h => h rfl)] at hmi
          have HMI := Lib.hid hmi
          have hne : (y != z) = false := by rw [bne_eq_false_iff_eq]; exact hyz
          have hne2 : (y != y) = false := by rw [bne_eq_false_iff_eq]
          have AC1H := Lib.hid AC1
          clear AC1
          clear hx hy hz hmi c3
          subst hyz
          cases qa with
          | true =>
            have HT := Lib.hid (NX.out (by rw [HMI.out]; rfl))
            go_wp2_with (go_at_call 94; (with_reducible refine (IXH.out _ HB.out).mono ?_); rintro e w' ⟨rfl, rfl⟩)
            go_quiet ((go_at_call 114; exact Calls.quiet_of_same ((AC1H.out _).mono fun _ _ h => ⟨h.1, h.2.symm⟩)))
            go_wp2
            go_roundw
            case rel => exact ⟨k + 1, by omega, by go_num, HT.out, below_drewN HX.out _⟩
            case measure => simp [intOf]; omega
          | false =>
            have HF := Lib.hid (MN1.out (by rw [HMI.out]; rfl))
            go_wp2_with (go_at_call 94; (with_reducible refine (IXH.out _ HB.out).mono ?_); rintro e w' ⟨rfl, rfl⟩)
            go_quiet ((go_at_call 114; exact Calls.quiet_of_same ((AC1H.out _).mono fun _ _ h => ⟨h.1, h.2.symm⟩)))
            go_wp2
            go_ret
            exact ⟨ret_bool HF.out.symm, below_drewN HB.out _⟩
        · have hkje : ((k : Int) == (j : Int)) = false := by rw [beq_eq_false_iff_ne]; omega
          have hkje2 : (k == j) = false := by rw [beq_eq_false_iff_ne]; exact hkj2
          rw [decide_eq_true hyz, decide_eq_true hkj2] at hmi
          have HT := Lib.hid (NX.out (by rw [hmi]; rfl))
          have hne2 : (y != y) = false := by rw [bne_eq_false_iff_eq]
          clear hx hy hz hmi AC1
          subst hyz
          go_wp2_with (go_at_call 94; (with_reducible refine (IXH.out _ HB.out).mono ?_); rintro e w' ⟨rfl, rfl⟩)
          go_quiet (fail)
          go_wp2
          go_roundw
          case rel => exact ⟨j + 1, by omega, by go_num, HT.out, below_drewN HX.out _⟩
          case measure => simp [intOf]; omega
      · rw [decide_eq_false hyz] at hmi
        have HF := Lib.hid (MN1.out (by rw [hmi]; rfl))
        have hne : (y != z) = true := by rw [bne_iff_ne]; exact hyz
        clear hx hy hz hmi AC1 hyz
        go_wp2_with (go_at_call 94; (with_reducible refine (IXH.out _ HB.out).mono ?_); rintro e w' ⟨rfl, rfl⟩)
        go_quiet (fail)
        go_wp2
        go_ret
        exact ⟨ret_bool HF.out.symm, below_drewN HB.out _⟩
    · obtain rfl : j = n := by omega
      have HT := Lib.hid (MY.out fun i hi => HN.out i (by rw [HL.out] at hi; exact hi))
      go_wp2
      go_ret
      exact ⟨ret_bool HT.out.symm, HB.out⟩
end Go.Proofs.YtcgkkppidkkjiaaGreatDoor
namespace Go.Proofs.YtcgkkppidkkjiaaGreatDoor
open Go.RowKit
/-- a question in block g -/
def QR (w : World) (g : Nat) (T : Tab) (l : List Int) (ce : Int) (nw : Nat) (vs : Nat → List Int) : Prop :=
  ∃ AH cH AV cV AR cR AI cI AW cW, Blk w g 82 #[.int .i64 T.st, .int .i64 T.sy, .slice AH T.n cH, .slice AV T.nv cV, .slice AR T.nr cR, .slice AI l.length cI, .int .i64 ce, .slice AW nw cW] ∧ TR w AH AV AR T ∧ (Reads w w.heap.size AI l.length (il l) ∧ l.length ≤ cI) ∧ VR w w.heap.size AW nw vs
theorem QR.later {w w' : World} {g : Nat} {T : Tab} {l : List Int} {ce : Int} {nw : Nat} {vs : Nat → List Int} (h : QR w g T l ce nw vs) (hb : Below w.heap.size w w') : QR w' g T l ce nw vs := by
  obtain ⟨AH, cH, AV, cV, AR, cR, AI, cI, AW, cW, hk, ht, hi, hv⟩ := h
  exact ⟨AH, cH, AV, cV, AR, cR, AI, cI, AW, cW, hk.below hb hk.lt, ht.later hb, ⟨(hi.1.below hb).more hb.size, hi.2⟩, hv.later hb⟩
/-- the new state of a row that matches a view -/
def so (l : List Int) (o : Int) (vw : List Int) : Int := if o < 0 then ig vw (ix l o).toNat else o
/-- the least of the new states of the first k views that match -/
def tl (st : Int) (v : Nat → List Int) (l : List Int) (o : Int) (vs : Nat → List Int) : Nat → Int
  | 0 => st
  | k + 1 => if mt v l (vs k) = true then (if so l o (vs k) < tl st v l o vs k then so l o (vs k) else tl st v l o vs k) else tl st v l o vs k
/-- the answer -/
def ta (st : Int) (v : Nat → List Int) (l : List Int) (o : Int) (vs : Nat → List Int) (m : Nat) : Int × Bool := if tl st v l o vs m = st then (0, false) else (tl st v l o vs m, true)
/-- a row of a table whose elements are known -/
structure Rw (n nv : Nat) (st : Int) (l : List Int) (o : Int) : Prop where
  len : l.length = n
  els : ∀ i, i < n → -(nv : Int) ≤ ig l i ∧ ig l i < st
  out : (0 ≤ o ∧ o < st) ∨ o ∈ l
theorem rw_of {n nv : Nat} {st : Int} {l : List Int} {o : Int} (h : rr n st nv l o = true) : Rw n nv st l o := by
  simp only [rr, Bool.and_eq_true, Bool.or_eq_true, decide_eq_true_eq, els_iff, sta_iff] at h
  obtain ⟨⟨h1, h2⟩, h3⟩ := h
  exact ⟨h1, by rw [← h1]; exact h2, h3⟩
theorem ix_mem {l : List Int} {o : Int} (h : o ∈ l) : ∃ k : Nat, k < l.length ∧ ix l o = (k : Int) ∧ ig l k = o := by
  rcases fx_cases (fun j => decide (ig l j = o)) l.length with ⟨j, hj, e, h1, h2⟩ | ⟨e, h1⟩
  · exact ⟨j, hj, e, of_decide_eq_true h1⟩
  · obtain ⟨j, hj, e⟩ := mem_ig h
    exact absurd e (of_decide_eq_false (h1 j hj))
/-- a state and a bool came back -/
def AnsOut (p : Int × Bool) (w : World) (e : Ending) (w' : World) : Prop := e = .returned (.tuple #[.int .i64 p.1, .bool p.2]) ∧ Below w.heap.size w w'

set_option maxRecDepth 100000 in
set_option maxHeartbeats 4000000 in
theorem turned_any (g : Nat) (T : Tab) (li : List Int) (ce : Int) (m : Nat) (vs : Nat → List Int) (AI : Option Addr) (cI : Nat) (l : List Int) (o : Int) (w : World)
    (h : QR w g T li ce m vs) (hI : Reads w w.heap.size AI T.n (il l)) (hr : Rw T.n T.nv T.st l o) (hv : ∀ k, k < m → (vs k).length = T.n) (hm : m ≤ 8) (hn : T.n ≤ 1000) (hnv : T.nv ≤ 1000) (hl : ∀ k, k < T.nv → (T.v k).length ≤ 1000) :
    Calls Tryz.prog 74 #[.pointer (some ⟨g, 0, none⟩), .agg #[.slice AI T.n cI, .int .i64 o]] w fun e w' => AnsOut (ta T.st T.v l o vs m) w e w' := by
  obtain ⟨AH, cH, AV, cV, AR, cR, AQ, cQ, AW, cW, hk, ht, hi, hw⟩ := h
  obtain ⟨st, ky, n, f, nv, v, nr, ri, ro⟩ := T
  simp only at *
  have HV := Lib.hid (fun w' (hb : Below w.heap.size w w') => ht.2.1.later hb)
  have HI := Lib.hid hI
  have HW := Lib.hid hw
  have HK := Lib.hid hk
  have HVL := Lib.hid hv
  have HLL := Lib.hid hl
  have HR := Lib.hid hr
  have K1 := Lib.hid (Blk.new w 41 #[.slice AI n cI, .int .i64 o])
  have KA := Lib.hid (hk.alloc (.cells #[.slice AI n cI, .int .i64 o] 41))
  have B1 := Lib.hid ((Below.refl w.heap.size w).alloc (Nat.le_refl _) (.cells #[.slice AI n cI, .int .i64 o] 41))
  have hgw : g < w.heap.size := hk.lt
  have TS := Lib.hid (fun k => show tl st v l o vs (k + 1) = if mt v l (vs k) = true then (if so l o (vs k) < tl st v l o vs k then so l o (vs k) else tl st v l o vs k) else tl st v l o vs k from rfl)
  have TA := Lib.hid (show ta st v l o vs m = if tl st v l o vs m = st then (0, false) else (tl st v l o vs m, true) from rfl)
  have T0 := Lib.hid (show tl st v l o vs 0 = st from rfl)
  generalize ta st v l o vs m = p at TA ⊢
  clear hI hw hk hv hl ht hi hr
  go_enter Tryz.func74, Tryz.ntmps74
  go_upto_region 1 with (fail)
  obtain ⟨rb, hrb⟩ : ∃ rb, rb = w.heap.size := ⟨_, rfl⟩
  rw [← hrb] at K1 ⊢
  have HRB := Lib.hid hrb
  clear hrb
  generalize w.alloc (.cells #[.slice AI n cI, .int .i64 o] 41) = w0 at K1 B1 KA ⊢
  obtain ⟨q0, q1, q2, q3, q4, q5, q6, q7, q8⟩ := KA.out.eight
  obtain ⟨k0, k1, k2, k3, k4⟩ := K1.out.two
  go_wp2
  go_loopw [6, 20] (fun lv jv wr => ∃ (j : Nat) (a : Int), j ≤ m ∧ jv = .int .i64 (j : Int) ∧ lv = .int .i64 a ∧ a = tl st v l o vs j ∧ Below w0.heap.size w0 wr) (fun _ jv _ => m - (intOf jv).toNat)
  case atStart => exact ⟨0, st, Nat.zero_le _, rfl, rfl, T0.out.symm, Below.refl _ _⟩
  case round =>
    obtain ⟨j, a, hj, rfl, rfl, ha, hbel⟩ := hrel
    have HX := Lib.hid hbel
    have HB := Lib.hid (B1.out.trans (hbel.mono B1.out.size))
    have HA := Lib.hid ha
    clear ha k0 k1 k2 k3 k4 q0 q1 q2 q3 q4 q5 q6 q7 q8
    have KB := Lib.hid (KA.out.below hbel KA.out.lt)
    have KR := Lib.hid (K1.out.below hbel K1.out.lt)
    obtain ⟨q0, q1, q2, q3, q4, q5, q6, q7, q8⟩ := KB.out.eight
    obtain ⟨k0, k1, k2, k3, k4⟩ := KR.out.two
    clear hbel
    by_cases hjm : j < m
    · obtain ⟨ad, A', c', rfl, hb1, c1, hr1⟩ := (HW.out.below HB.out).at_ hjm
      have hvl := HVL.out j hjm
      rw [hvl] at c1 hr1
      have MA := matches_any g AV nv cV v AI n cI l o A' c' (vs j) wr (Nat.lt_of_lt_of_le hgw HB.out.size) q3 (HV.out _ HB.out) ((HI.out.below HB.out).more HB.out.size) (hr1.more HB.out.size) (fun i hi => (HR.out.els i hi).1) hn hnv HLL.out
      have TJ := TS.out j
      by_cases hmt : mt v l (vs j) = true
      · rw [if_pos hmt] at TJ
        rw [hmt] at MA
        have MAH := Lib.hid MA
        clear MA hmt
        by_cases ho : o < 0
        · have hmem : o ∈ l := by
            rcases HR.out.out with h | h
            · omega
            · exact h
          obtain ⟨i, hi, hix, -⟩ := ix_mem hmem
          have hin : i < n := by rw [← HR.out.len]; exact hi
          rw [show so l o (vs j) = ig (vs j) i by rw [so, if_pos ho, hix]; rfl] at TJ
          have IX := fun w' (hb : Below w.heap.size w w') => index_int AI n cI w.heap.size l w' o (HI.out.below hb) (by omega)
          rw [hix] at IX
          have IXH := Lib.hid IX
          have AT := Lib.hid (fun w' (hb : Below wr.heap.size wr w') => il_at (hr1.more HB.out.size |>.below hb) hin)
          rw [← HA.out] at TJ
          obtain ⟨s, hs⟩ : ∃ s, s = ig (vs j) i := ⟨_, rfl⟩
          rw [← hs] at TJ AT
          clear hs hix hmem IX hr1
          by_cases hsa : s < a
          · rw [if_pos hsa] at TJ
            have HT := Lib.hid TJ
            clear TJ
            go_wp2_with (first
              | (go_at_call 100; (with_reducible refine MAH.out.mono ?_); rintro e w2 ⟨rfl, hb⟩; have B2 := Lib.hid (HX.out.trans (hb.mono HX.out.size)); have D2 := Lib.hid (HB.out.trans (hb.mono HB.out.size)); obtain ⟨m0, m1, m2, m3, m4⟩ := (KR.out.below hb KR.out.lt).two; obtain ⟨ad2, he2, hd2, hc2⟩ := AT.out w2 hb; clear hb; subst he2)
              | (go_at_call 94; (with_reducible refine (IXH.out _ D2.out).mono ?_); rintro e w' ⟨rfl, rfl⟩))
            go_roundw
            case rel => exact ⟨j + 1, s, by omega, by go_num, congrArg (Value.int .i64) (by omega), HT.out.symm, B2.out⟩
            case measure => simp [intOf]; omega
          · rw [if_neg hsa] at TJ
            have HT := Lib.hid TJ
            clear TJ
            go_wp2_with (first
              | (go_at_call 100; (with_reducible refine MAH.out.mono ?_); rintro e w2 ⟨rfl, hb⟩; have B2 := Lib.hid (HX.out.trans (hb.mono HX.out.size)); have D2 := Lib.hid (HB.out.trans (hb.mono HB.out.size)); obtain ⟨m0, m1, m2, m3, m4⟩ := (KR.out.below hb KR.out.lt).two; obtain ⟨ad2, he2, hd2, hc2⟩ := AT.out w2 hb; clear hb; subst he2)
              | (go_at_call 94; (with_reducible refine (IXH.out _ D2.out).mono ?_); rintro e w' ⟨rfl, rfl⟩))
            go_roundw
            case rel => exact ⟨j + 1, a, by omega, by go_num, congrArg (Value.int .i64) (by omega), HT.out.symm, B2.out⟩
            case measure => simp [intOf]; omega
        · rw [show so l o (vs j) = o by rw [so, if_neg ho], ← HA.out] at TJ
          have ho2 : decide (o < 0) = false := decide_eq_false ho
          by_cases hsa : o < a
          · rw [if_pos hsa] at TJ
            have HT := Lib.hid TJ
            clear TJ
            go_wp2_with (go_at_call 100; (with_reducible refine MAH.out.mono ?_); rintro e w2 ⟨rfl, hb⟩; have B2 := Lib.hid (HX.out.trans (hb.mono HX.out.size)); obtain ⟨m0, m1, m2, m3, m4⟩ := (KR.out.below hb KR.out.lt).two; clear hb)
            go_roundw
            case rel => exact ⟨j + 1, o, by omega, by go_num, congrArg (Value.int .i64) (by omega), HT.out.symm, B2.out⟩
            case measure => simp [intOf]; omega
          · rw [if_neg hsa] at TJ
            have HT := Lib.hid TJ
            clear TJ
            go_wp2_with (go_at_call 100; (with_reducible refine MAH.out.mono ?_); rintro e w2 ⟨rfl, hb⟩; have B2 := Lib.hid (HX.out.trans (hb.mono HX.out.size)); obtain ⟨m0, m1, m2, m3, m4⟩ := (KR.out.below hb KR.out.lt).two; clear hb)
            go_roundw
            case rel => exact ⟨j + 1, a, by omega, by go_num, congrArg (Value.int .i64) (by omega), HT.out.symm, B2.out⟩
            case measure => simp [intOf]; omega
      · rw [if_neg hmt, ← HA.out] at TJ
        have HT := Lib.hid TJ
        rw [Bool.not_eq_true] at hmt
        rw [hmt] at MA
        have MAH := Lib.hid MA
        clear MA hmt TJ
        go_wp2_with (go_at_call 100; (with_reducible refine MAH.out.mono ?_); rintro e w2 ⟨rfl, hb⟩; have B2 := Lib.hid (HX.out.trans (hb.mono HX.out.size)); clear hb)
        go_roundw
        case rel => exact ⟨j + 1, a, by omega, by go_num, rfl, HT.out.symm, B2.out⟩
        case measure => simp [intOf]; omega
    · obtain rfl : j = m := by omega
      have HP := TA.out
      rw [← HA.out] at HP
      by_cases has : a = st
      · rw [if_pos has] at HP
        have HPH := Lib.hid HP
        have e1 : (a == st) = true := by rw [beq_iff_eq]; exact has
        clear HP has
        go_wp2
        go_ret2
        exact ⟨by rw [HPH.out]; rfl, HB.out⟩
      · rw [if_neg has] at HP
        have HPH := Lib.hid HP
        have e1 : (a == st) = false := by rw [beq_eq_false_iff_ne]; exact has
        clear HP has
        go_wp2
        go_ret2
        exact ⟨by rw [HPH.out]; rfl, HB.out⟩
end Go.Proofs.YtcgkkppidkkjiaaGreatDoor
namespace Go.Proofs.YtcgkkppidkkjiaaGreatDoor
open Go.RowKit
/-- what an element may stand for -/
def ch0 (v : Nat → List Int) (e : Int) : List Int := if e < 0 then v (-1 - e).toNat else [e]
def ch (v : Nat → List Int) (l : List Int) (e ce sc : Int) : List Int := if ce < 0 then ch0 v e else if ig l ce.toNat = e then (if sc ∈ ch0 v e then [sc] else []) else ch0 v e
/-- a list of numbers came back -/
def IntsOut (L : List Int) (w : World) (e : Ending) (w' : World) : Prop := ∃ A' c', e = .returned (.slice A' L.length c') ∧ Reads w' w'.heap.size A' L.length (il L) ∧ Below w.heap.size w w'
theorem Reads.one {w : World} {B : Nat} {ad : Addr} {x : Int} (hb : ad.block < B) (h : w.cell? ad = some (.int .i64 x)) : Reads w B (some ad) 1 (il [x]) := by
  refine ⟨rfl, fun _ => ⟨ad, rfl, hb, fun j u hu => ?_⟩⟩
  match j, hu with
  | 0, hu =>
    simp [il] at hu
    subst hu
    simpa [Addr.add] using h
  | j + 1, hu => simp [il] at hu

set_option maxRecDepth 100000 in
set_option maxHeartbeats 4000000 in
theorem choices_any (g : Nat) (T : Tab) (li : List Int) (ce : Int) (m : Nat) (vs : Nat → List Int) (AI : Option Addr) (cI : Nat) (l : List Int) (o e : Int) (w : World)
    (h : QR w g T li ce m vs) (hI : Reads w w.heap.size AI T.n (il l)) (he : -(T.nv : Int) ≤ e) (hc : ce < T.n) (hc1 : -1 ≤ ce) (hli : li.length = T.n) (hn : T.n ≤ 1000) (hnv : T.nv ≤ 1000) (hl : ∀ k, k < T.nv → (T.v k).length ≤ 1000) :
    Calls Tryz.prog 98 #[.pointer (some ⟨g, 0, none⟩), .agg #[.slice AI T.n cI, .int .i64 o], .int .i64 e] w fun e' w' => IntsOut (ch T.v l e ce (ig li ce.toNat)) w e' w' := by
  obtain ⟨AH, cH, AV, cV, AR, cR, AQ, cQ, AW, cW, hk, ht, hi, hw⟩ := h
  obtain ⟨st, ky, n, f, nv, v, nr, ri, ro⟩ := T
  simp only at *
  have HLE := Lib.hid (reads_len hI)
  have K1 := (Blk.new w 41 #[.slice AI n cI, .int .i64 o]).alloc (.cells #[.int .i64 e] 3)
  have K2 := Blk.new (w.alloc (.cells #[.slice AI n cI, .int .i64 o] 41)) 3 #[.int .i64 e]
  rw [show (w.alloc (.cells #[.slice AI n cI, .int .i64 o] 41)).heap.size = w.heap.size + 1 by simp] at K2
  have KA := (hk.alloc (.cells #[.slice AI n cI, .int .i64 o] 41)).alloc (.cells #[.int .i64 e] 3)
  have B2 : Below w.heap.size w ((w.alloc (.cells #[.slice AI n cI, .int .i64 o] 41)).alloc (.cells #[.int .i64 e] 3)) := ((Below.refl _ _).alloc (Nat.le_refl _) _).alloc (by simp) _
  have HV := Lib.hid ht.2.1
  have HI := Lib.hid hI
  have HQ := Lib.hid hi.1
  have hcap := hi.2
  rw [hli] at hcap
  have HLL := Lib.hid hl
  have HLI := Lib.hid hli
  clear hI hk hw hl ht hi hli
  by_cases h0 : e < 0
  · obtain ⟨kv, hkv⟩ : ∃ k : Nat, -1 - e = (k : Int) := ⟨(-1 - e).toNat, by omega⟩
    have hkn : kv < nv := by omega
    have HC0 := Lib.hid (show ch0 v e = v kv by rw [ch0, if_pos h0, hkv]; rfl)
    have hvl := HLL.out kv hkn
    by_cases hce : ce < 0
    · have HF := Lib.hid (show ch v l e ce (ig li ce.toNat) = v kv by rw [ch, if_pos hce, HC0.out])
      rw [HF.out]
      have d0 : decide (ce < 0) = true := decide_eq_true hce
      go_enter Tryz.func98, Tryz.ntmps98
      go_upto_region 2 with (fail)
      generalize (w.alloc (.cells #[.slice AI n cI, .int .i64 o] 41)).alloc (.cells #[.int .i64 e] 3) = w0 at K1 K2 KA B2 ⊢
      obtain ⟨q0, q1, q2, q3, q4, q5, q6, q7, q8⟩ := KA.eight
      obtain ⟨k0, k1, k2, k3, k4⟩ := K1.two
      have k20 := K2.cell 0
      have K20 := Lib.hid (show w0.cell? ⟨w.heap.size + 1, 0, none⟩ = some (.int .i64 e) from k20)
      clear k20
      have KLT := Lib.hid K2.lt
      obtain ⟨ad, A', c', rfl, hbv, cv, rv⟩ := (HV.out.below B2).at_ hkn
      have RV := Lib.hid rv
      go_wp2_with fail
      go_quiet (fail)
      go_wp2
      go_ret
      exact ⟨_, _, rfl, (RV.out.more B2.size), below_drewN B2 _⟩
    · obtain ⟨c, hcc⟩ : ∃ c : Nat, ce = (c : Int) := ⟨ce.toNat, by omega⟩
      subst hcc
      rw [show ((c : Int)).toNat = c from rfl]
      have hcn : c < n := by omega
      have hcn1 : c < cQ := by omega
      have hcn2 : (c : Int) + 1 ≤ (cQ : Int) := by omega
      have d0 : decide ((c : Int) < 0) = false := by rw [decide_eq_false_iff_not]; omega
      obtain ⟨x, hx⟩ : ∃ x, x = ig l c := ⟨_, rfl⟩
      obtain ⟨sc, hsc⟩ : ∃ sc, sc = ig li c := ⟨_, rfl⟩
      rw [← hsc]
      by_cases hxe : x = e
      · have HX := Lib.hid (show ch v l e (c : Int) sc = (if sc ∈ v kv then [sc] else []) by rw [ch, if_neg hce, show ((c : Int)).toNat = c from rfl, ← hx, if_pos hxe, HC0.out])
        rw [HX.out]
        have hne : (x != e) = false := by rw [bne_eq_false_iff_eq]; exact hxe
        have hne2 : (e != e) = false := by rw [bne_eq_false_iff_eq]
        by_cases hsm : sc ∈ v kv
        · rw [if_pos hsm]
          go_enter Tryz.func98, Tryz.ntmps98
          go_upto_region 2 with (fail)
          generalize (w.alloc (.cells #[.slice AI n cI, .int .i64 o] 41)).alloc (.cells #[.int .i64 e] 3) = w0 at K1 K2 KA B2 ⊢
          obtain ⟨q0, q1, q2, q3, q4, q5, q6, q7, q8⟩ := KA.eight
          obtain ⟨k0, k1, k2, k3, k4⟩ := K1.two
          have k20 := K2.cell 0
          have K20 := Lib.hid (show w0.cell? ⟨w.heap.size + 1, 0, none⟩ = some (.int .i64 e) from k20)
          clear k20
          have KLT := Lib.hid K2.lt
          obtain ⟨ad, A', c', rfl, hbv, cv, rv⟩ := (HV.out.below B2).at_ hkn
          have RV := Lib.hid rv
          obtain ⟨ai, rfl, hbi, ci⟩ := il_at (HI.out.below B2) hcn
          obtain ⟨aq, rfl, hbq, cq⟩ := il_at (HQ.out.below B2) (show c < li.length by rw [HLI.out]; exact hcn)
          rw [← hx] at ci
          rw [← hsc] at cq
          have HBQ := Lib.hid hbq
          rw [HLI.out] at q5
          have RVW := Lib.hid (show Reads w0 w0.heap.size A' (v kv).length (il (v kv)) from ((RV.out).more B2.size))
          have CO := fun (w1 : World) (a : Nat) (h : Reads w1 w1.heap.size A' (v kv).length (il (v kv))) => contains_any A' (v kv).length c' w1.heap.size (v kv) sc (w1.drewN a) (h.drewN a) (by omega)
          rw [decide_eq_true hsm] at CO
          have COH := Lib.hid CO
          clear CO hce hx hsc hsm
          subst hxe
          go_wp2_with fail
          go_quiet (fail)
          go_wp2_with fail
          have KA2 := KA.drewN nq
          have B3 := below_drewN B2 nq
          have RVX := Lib.hid (RVW.out.drewN nq)
          have cq2 : (w0.drewN nq).cell? (aq.add c) = some (.int .i64 sc) := cq
          have hs2 : w.heap.size ≤ (w0.drewN nq).heap.size := B2.size
          rw [show w0.heap.size = (w0.drewN nq).heap.size from rfl] at RVX
          generalize w0.drewN nq = w1 at KA2 B3 RVX cq2 hs2 ⊢
          clear q0 q1 q2 q3 q4 q5 q6 q7 q8 cq
          obtain ⟨q0, q1, q2, q3, q4, q5, q6, q7, q8⟩ := KA2.eight
          rw [HLI.out] at q5
          have COW := Lib.hid (fun a => COH.out w1 a RVX.out)
          go_quiet ((go_at_call 68; exact Calls.quiet_of_same ((COW.out _).mono fun _ _ h => ⟨h.1, h.2.symm⟩)))
          go_wp2_with fail
          have KA3 := KA2.drewN nq
          have B4 := below_drewN B3 nq
          have cq3 : (w1.drewN nq).cell? (aq.add c) = some (.int .i64 sc) := cq2
          have hs3 : w.heap.size ≤ (w1.drewN nq).heap.size := hs2
          generalize w1.drewN nq = w2 at KA3 B4 cq3 hs3 ⊢
          clear q0 q1 q2 q3 q4 q5 q6 q7 q8 cq2
          obtain ⟨q0, q1, q2, q3, q4, q5, q6, q7, q8⟩ := KA3.eight
          rw [HLI.out] at q5
          have CQH := Lib.hid cq3
          go_quiet (fail)
          go_wp2
          go_ret
          exact ⟨_, _, rfl, Reads.one (ad := aq.add c) (by rw [block_of_add]; exact Nat.lt_of_lt_of_le HBQ.out hs3) CQH.out, below_drewN B4 _⟩
        · rw [if_neg hsm]
          go_enter Tryz.func98, Tryz.ntmps98
          go_upto_region 2 with (fail)
          generalize (w.alloc (.cells #[.slice AI n cI, .int .i64 o] 41)).alloc (.cells #[.int .i64 e] 3) = w0 at K1 K2 KA B2 ⊢
          obtain ⟨q0, q1, q2, q3, q4, q5, q6, q7, q8⟩ := KA.eight
          obtain ⟨k0, k1, k2, k3, k4⟩ := K1.two
          have k20 := K2.cell 0
          have K20 := Lib.hid (show w0.cell? ⟨w.heap.size + 1, 0, none⟩ = some (.int .i64 e) from k20)
          clear k20
          have KLT := Lib.hid K2.lt
          obtain ⟨ad, A', c', rfl, hbv, cv, rv⟩ := (HV.out.below B2).at_ hkn
          have RV := Lib.hid rv
          obtain ⟨ai, rfl, hbi, ci⟩ := il_at (HI.out.below B2) hcn
          obtain ⟨aq, rfl, hbq, cq⟩ := il_at (HQ.out.below B2) (show c < li.length by rw [HLI.out]; exact hcn)
          rw [← hx] at ci
          rw [← hsc] at cq
          have HBQ := Lib.hid hbq
          rw [HLI.out] at q5
          have RVW := Lib.hid (show Reads w0 w0.heap.size A' (v kv).length (il (v kv)) from ((RV.out).more B2.size))
          have CO := fun (w1 : World) (a : Nat) (h : Reads w1 w1.heap.size A' (v kv).length (il (v kv))) => contains_any A' (v kv).length c' w1.heap.size (v kv) sc (w1.drewN a) (h.drewN a) (by omega)
          rw [decide_eq_false hsm] at CO
          have COH := Lib.hid CO
          clear CO hce hx hsc hsm
          subst hxe
          go_wp2_with fail
          go_quiet (fail)
          go_wp2_with fail
          have KA2 := KA.drewN nq
          have B3 := below_drewN B2 nq
          have RVX := Lib.hid (RVW.out.drewN nq)
          have cq2 : (w0.drewN nq).cell? (aq.add c) = some (.int .i64 sc) := cq
          have hs2 : w.heap.size ≤ (w0.drewN nq).heap.size := B2.size
          rw [show w0.heap.size = (w0.drewN nq).heap.size from rfl] at RVX
          generalize w0.drewN nq = w1 at KA2 B3 RVX cq2 hs2 ⊢
          clear q0 q1 q2 q3 q4 q5 q6 q7 q8 cq
          obtain ⟨q0, q1, q2, q3, q4, q5, q6, q7, q8⟩ := KA2.eight
          rw [HLI.out] at q5
          have COW := Lib.hid (fun a => COH.out w1 a RVX.out)
          go_quiet ((go_at_call 68; exact Calls.quiet_of_same ((COW.out _).mono fun _ _ h => ⟨h.1, h.2.symm⟩)))
          go_wp2
          go_ret
          exact ⟨_, _, rfl, Reads.none_, below_drewN B3 _⟩
      · have HX := Lib.hid (show ch v l e (c : Int) sc = v kv by rw [ch, if_neg hce, show ((c : Int)).toNat = c from rfl, ← hx, if_neg hxe, HC0.out])
        rw [HX.out]
        have hne : (x != e) = true := by rw [bne_iff_ne]; exact hxe
        go_enter Tryz.func98, Tryz.ntmps98
        go_upto_region 2 with (fail)
        generalize (w.alloc (.cells #[.slice AI n cI, .int .i64 o] 41)).alloc (.cells #[.int .i64 e] 3) = w0 at K1 K2 KA B2 ⊢
        obtain ⟨q0, q1, q2, q3, q4, q5, q6, q7, q8⟩ := KA.eight
        obtain ⟨k0, k1, k2, k3, k4⟩ := K1.two
        have k20 := K2.cell 0
        have K20 := Lib.hid (show w0.cell? ⟨w.heap.size + 1, 0, none⟩ = some (.int .i64 e) from k20)
        clear k20
        have KLT := Lib.hid K2.lt
        obtain ⟨ad, A', c', rfl, hbv, cv, rv⟩ := (HV.out.below B2).at_ hkn
        have RV := Lib.hid rv
        obtain ⟨ai, rfl, hbi, ci⟩ := il_at (HI.out.below B2) hcn
        obtain ⟨aq, rfl, hbq, cq⟩ := il_at (HQ.out.below B2) (show c < li.length by rw [HLI.out]; exact hcn)
        rw [← hx] at ci
        rw [← hsc] at cq
        have HBQ := Lib.hid hbq
        rw [HLI.out] at q5
        clear hce hx hsc hxe
        go_wp2_with fail
        go_quiet (fail)
        go_wp2
        go_ret
        exact ⟨_, _, rfl, (RV.out.more B2.size), below_drewN B2 _⟩
  · have e0 : decide (e < 0) = false := decide_eq_false h0
    have HC0 := Lib.hid (show ch0 v e = [e] by rw [ch0, if_neg h0])
    by_cases hce : ce < 0
    · have HF := Lib.hid (show ch v l e ce (ig li ce.toNat) = [e] by rw [ch, if_pos hce, HC0.out])
      rw [HF.out]
      have d0 : decide (ce < 0) = true := decide_eq_true hce
      go_enter Tryz.func98, Tryz.ntmps98
      go_upto_region 2 with (fail)
      generalize (w.alloc (.cells #[.slice AI n cI, .int .i64 o] 41)).alloc (.cells #[.int .i64 e] 3) = w0 at K1 K2 KA B2 ⊢
      obtain ⟨q0, q1, q2, q3, q4, q5, q6, q7, q8⟩ := KA.eight
      obtain ⟨k0, k1, k2, k3, k4⟩ := K1.two
      have k20 := K2.cell 0
      have K20 := Lib.hid (show w0.cell? ⟨w.heap.size + 1, 0, none⟩ = some (.int .i64 e) from k20)
      clear k20
      have KLT := Lib.hid K2.lt
      go_wp2_with fail
      go_quiet (fail)
      go_wp2
      go_ret
      exact ⟨_, _, rfl, (Reads.one (ad := ⟨w.heap.size + 1, 0, none⟩) KLT.out K20.out), below_drewN B2 _⟩
    · obtain ⟨c, hcc⟩ : ∃ c : Nat, ce = (c : Int) := ⟨ce.toNat, by omega⟩
      subst hcc
      rw [show ((c : Int)).toNat = c from rfl]
      have hcn : c < n := by omega
      have hcn1 : c < cQ := by omega
      have hcn2 : (c : Int) + 1 ≤ (cQ : Int) := by omega
      have d0 : decide ((c : Int) < 0) = false := by rw [decide_eq_false_iff_not]; omega
      obtain ⟨x, hx⟩ : ∃ x, x = ig l c := ⟨_, rfl⟩
      obtain ⟨sc, hsc⟩ : ∃ sc, sc = ig li c := ⟨_, rfl⟩
      rw [← hsc]
      by_cases hxe : x = e
      · have HX := Lib.hid (show ch v l e (c : Int) sc = (if sc ∈ [e] then [sc] else []) by rw [ch, if_neg hce, show ((c : Int)).toNat = c from rfl, ← hx, if_pos hxe, HC0.out])
        rw [HX.out]
        have hne : (x != e) = false := by rw [bne_eq_false_iff_eq]; exact hxe
        have hne2 : (e != e) = false := by rw [bne_eq_false_iff_eq]
        by_cases hsm : sc ∈ [e]
        · rw [if_pos hsm]
          go_enter Tryz.func98, Tryz.ntmps98
          go_upto_region 2 with (fail)
          generalize (w.alloc (.cells #[.slice AI n cI, .int .i64 o] 41)).alloc (.cells #[.int .i64 e] 3) = w0 at K1 K2 KA B2 ⊢
          obtain ⟨q0, q1, q2, q3, q4, q5, q6, q7, q8⟩ := KA.eight
          obtain ⟨k0, k1, k2, k3, k4⟩ := K1.two
          have k20 := K2.cell 0
          have K20 := Lib.hid (show w0.cell? ⟨w.heap.size + 1, 0, none⟩ = some (.int .i64 e) from k20)
          clear k20
          have KLT := Lib.hid K2.lt
          obtain ⟨ai, rfl, hbi, ci⟩ := il_at (HI.out.below B2) hcn
          obtain ⟨aq, rfl, hbq, cq⟩ := il_at (HQ.out.below B2) (show c < li.length by rw [HLI.out]; exact hcn)
          rw [← hx] at ci
          rw [← hsc] at cq
          have HBQ := Lib.hid hbq
          rw [HLI.out] at q5
          have RVW := Lib.hid (show Reads w0 w0.heap.size (some ⟨w.heap.size + 1, 0, none⟩) 1 (il ([e])) from ((Reads.one (ad := ⟨w.heap.size + 1, 0, none⟩) KLT.out K20.out)))
          have CO := fun (w1 : World) (a : Nat) (h : Reads w1 w1.heap.size (some ⟨w.heap.size + 1, 0, none⟩) 1 (il ([e]))) => contains_any (some ⟨w.heap.size + 1, 0, none⟩) 1 1 w1.heap.size ([e]) sc (w1.drewN a) (h.drewN a) (by decide)
          rw [decide_eq_true hsm] at CO
          have COH := Lib.hid CO
          clear CO hce hx hsc hsm
          subst hxe
          go_wp2_with fail
          go_quiet (fail)
          go_wp2_with fail
          have KA2 := KA.drewN nq
          have B3 := below_drewN B2 nq
          have RVX := Lib.hid (RVW.out.drewN nq)
          have cq2 : (w0.drewN nq).cell? (aq.add c) = some (.int .i64 sc) := cq
          have hs2 : w.heap.size ≤ (w0.drewN nq).heap.size := B2.size
          rw [show w0.heap.size = (w0.drewN nq).heap.size from rfl] at RVX
          generalize w0.drewN nq = w1 at KA2 B3 RVX cq2 hs2 ⊢
          clear q0 q1 q2 q3 q4 q5 q6 q7 q8 cq
          obtain ⟨q0, q1, q2, q3, q4, q5, q6, q7, q8⟩ := KA2.eight
          rw [HLI.out] at q5
          have COW := Lib.hid (fun a => COH.out w1 a RVX.out)
          go_quiet ((go_at_call 68; exact Calls.quiet_of_same ((COW.out _).mono fun _ _ h => ⟨h.1, h.2.symm⟩)))
          go_wp2_with fail
          have KA3 := KA2.drewN nq
          have B4 := below_drewN B3 nq
          have cq3 : (w1.drewN nq).cell? (aq.add c) = some (.int .i64 sc) := cq2
          have hs3 : w.heap.size ≤ (w1.drewN nq).heap.size := hs2
          generalize w1.drewN nq = w2 at KA3 B4 cq3 hs3 ⊢
          clear q0 q1 q2 q3 q4 q5 q6 q7 q8 cq2
          obtain ⟨q0, q1, q2, q3, q4, q5, q6, q7, q8⟩ := KA3.eight
          rw [HLI.out] at q5
          have CQH := Lib.hid cq3
          go_quiet (fail)
          go_wp2
          go_ret
          exact ⟨_, _, rfl, Reads.one (ad := aq.add c) (by rw [block_of_add]; exact Nat.lt_of_lt_of_le HBQ.out hs3) CQH.out, below_drewN B4 _⟩
        · rw [if_neg hsm]
          go_enter Tryz.func98, Tryz.ntmps98
          go_upto_region 2 with (fail)
          generalize (w.alloc (.cells #[.slice AI n cI, .int .i64 o] 41)).alloc (.cells #[.int .i64 e] 3) = w0 at K1 K2 KA B2 ⊢
          obtain ⟨q0, q1, q2, q3, q4, q5, q6, q7, q8⟩ := KA.eight
          obtain ⟨k0, k1, k2, k3, k4⟩ := K1.two
          have k20 := K2.cell 0
          have K20 := Lib.hid (show w0.cell? ⟨w.heap.size + 1, 0, none⟩ = some (.int .i64 e) from k20)
          clear k20
          have KLT := Lib.hid K2.lt
          obtain ⟨ai, rfl, hbi, ci⟩ := il_at (HI.out.below B2) hcn
          obtain ⟨aq, rfl, hbq, cq⟩ := il_at (HQ.out.below B2) (show c < li.length by rw [HLI.out]; exact hcn)
          rw [← hx] at ci
          rw [← hsc] at cq
          have HBQ := Lib.hid hbq
          rw [HLI.out] at q5
          have RVW := Lib.hid (show Reads w0 w0.heap.size (some ⟨w.heap.size + 1, 0, none⟩) 1 (il ([e])) from ((Reads.one (ad := ⟨w.heap.size + 1, 0, none⟩) KLT.out K20.out)))
          have CO := fun (w1 : World) (a : Nat) (h : Reads w1 w1.heap.size (some ⟨w.heap.size + 1, 0, none⟩) 1 (il ([e]))) => contains_any (some ⟨w.heap.size + 1, 0, none⟩) 1 1 w1.heap.size ([e]) sc (w1.drewN a) (h.drewN a) (by decide)
          rw [decide_eq_false hsm] at CO
          have COH := Lib.hid CO
          clear CO hce hx hsc hsm
          subst hxe
          go_wp2_with fail
          go_quiet (fail)
          go_wp2_with fail
          have KA2 := KA.drewN nq
          have B3 := below_drewN B2 nq
          have RVX := Lib.hid (RVW.out.drewN nq)
          have cq2 : (w0.drewN nq).cell? (aq.add c) = some (.int .i64 sc) := cq
          have hs2 : w.heap.size ≤ (w0.drewN nq).heap.size := B2.size
          rw [show w0.heap.size = (w0.drewN nq).heap.size from rfl] at RVX
          generalize w0.drewN nq = w1 at KA2 B3 RVX cq2 hs2 ⊢
          clear q0 q1 q2 q3 q4 q5 q6 q7 q8 cq
          obtain ⟨q0, q1, q2, q3, q4, q5, q6, q7, q8⟩ := KA2.eight
          rw [HLI.out] at q5
          have COW := Lib.hid (fun a => COH.out w1 a RVX.out)
          go_quiet ((go_at_call 68; exact Calls.quiet_of_same ((COW.out _).mono fun _ _ h => ⟨h.1, h.2.symm⟩)))
          go_wp2
          go_ret
          exact ⟨_, _, rfl, Reads.none_, below_drewN B3 _⟩
      · have HX := Lib.hid (show ch v l e (c : Int) sc = [e] by rw [ch, if_neg hce, show ((c : Int)).toNat = c from rfl, ← hx, if_neg hxe, HC0.out])
        rw [HX.out]
        have hne : (x != e) = true := by rw [bne_iff_ne]; exact hxe
        go_enter Tryz.func98, Tryz.ntmps98
        go_upto_region 2 with (fail)
        generalize (w.alloc (.cells #[.slice AI n cI, .int .i64 o] 41)).alloc (.cells #[.int .i64 e] 3) = w0 at K1 K2 KA B2 ⊢
        obtain ⟨q0, q1, q2, q3, q4, q5, q6, q7, q8⟩ := KA.eight
        obtain ⟨k0, k1, k2, k3, k4⟩ := K1.two
        have k20 := K2.cell 0
        have K20 := Lib.hid (show w0.cell? ⟨w.heap.size + 1, 0, none⟩ = some (.int .i64 e) from k20)
        clear k20
        have KLT := Lib.hid K2.lt
        obtain ⟨ai, rfl, hbi, ci⟩ := il_at (HI.out.below B2) hcn
        obtain ⟨aq, rfl, hbq, cq⟩ := il_at (HQ.out.below B2) (show c < li.length by rw [HLI.out]; exact hcn)
        rw [← hx] at ci
        rw [← hsc] at cq
        have HBQ := Lib.hid hbq
        rw [HLI.out] at q5
        clear hce hx hsc hxe
        go_wp2_with fail
        go_quiet (fail)
        go_wp2
        go_ret
        exact ⟨_, _, rfl, (Reads.one (ad := ⟨w.heap.size + 1, 0, none⟩) KLT.out K20.out), below_drewN B2 _⟩
end Go.Proofs.YtcgkkppidkkjiaaGreatDoor
