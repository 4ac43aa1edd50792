/- The walk of equivalent: the number of an input with which the rows do the same. -/
/- What the numbers of a list of nodes mean. -/
import Derived.Test.YtedjjhaopohibaaGreatDoorMi
import Derived.Test.YtedjjhaopohibaaGreatDoorMg
import Derived.Test.YtedjjhaopohibaaGreatDoorMe
import Derived.Test.YtedjjhaopohibaaGreatDoorMc
namespace Go.Proofs.YtedjjhaopohibaaGreatDoor
open Go.RowKit

/-- the same states, that of the centre in its place -/
def Eqv (n : Nat) (f : Nat → P2) (l m : List Int) : Prop := m.Perm l ∧ (0 ≤ px f n (0, 0) → ig m (px f n (0, 0)).toNat = ig l (px f n (0, 0)).toNat)
set_option maxRecDepth 100000 in
set_option maxHeartbeats 2000000 in
theorem equiv_any (S : Nat) (sy : Int) (AH : Option Addr) (n cH : Nat) (f : Nat → P2) (AV : Option Addr) (nv cV : Nat) (AR : Option Addr) (nr cR : Nat) (A : Option Addr) (c : Nat) (l : List Int) (w : World)
    (hS : 2 ≤ S) (hS8 : S ≤ 8) (h0 : 0 < n) (hn : n ≤ 1000) (hsm : S ^ n ≤ 65536) (hH : QReads w w.heap.size AH n f) (h : Reads w w.heap.size A n (il l)) (hst : Sts S l) :
    Calls Tryz.prog 31 #[.agg #[.int .i64 (S : Int), .int .i64 sy, .slice AH n cH, .slice AV nv cV, .slice AR nr cR], .slice A n c] w fun e w' => ∃ m, e = .returned (.int .i64 ((nm S m : Nat) : Int)) ∧ m.length = n ∧ (m = l ∨ sy = 3 ∧ Eqv n f l m) ∧ Below w.heap.size w w' := by
  have hl := reads_len h
  have K0 := Blk.new w 26 #[.int .i64 (S : Int), .int .i64 sy, .slice AH n cH, .slice AV nv cV, .slice AR nr cR]
  have B0 := (Below.refl w.heap.size w).alloc (Nat.le_refl _) (.cells #[.int .i64 (S : Int), .int .i64 sy, .slice AH n cH, .slice AV nv cV, .slice AR nr cR] 26)
  have HH := Lib.hid (fun w' (hb : Below w.heap.size w w') => pindex_any AH n cH f 0 0 w' (hH.later hb) hn)
  have HR := Lib.hid (fun w' (hb : Below w.heap.size w w') => show Reads w' w'.heap.size A n (il l) from (h.below hb).more hb.size)
  have HL := Lib.hid hl
  have HSL := Lib.hid hst
  have HSM := Lib.hid hsm
  clear h hH hst hsm hl
  go_enter Tryz.func31, Tryz.ntmps31
  go_upto_region 1 with (fail)
  generalize w.alloc (.cells #[.int .i64 (S : Int), .int .i64 sy, .slice AH n cH, .slice AV nv cV, .slice AR nr cR] 26) = w0 at K0 B0 ⊢
  obtain ⟨t0, t1, t2, t3, t4, t5⟩ := K0.five
  have K0 := Lib.hid K0
  have B0 := Lib.hid B0
  by_cases h3 : sy = 3
  · have e3 : (sy == 3) = true := by rw [h3]; rfl
    have H3 := Lib.hid h3
    clear h3
    rcases fx_cases (fun i => decide (f i = (0, 0))) n with ⟨k, hk, e, _⟩ | ⟨e, _⟩
    · have ep : px f n (0, 0) = (k : Int) := e
      have AR' := Lib.hid (fun w' (hb : Below w.heap.size w w') => arranged_at A c n k l w' (HR.out w' hb) (by omega) hk)
      have HH2 := HH.out
      rw [ep] at HH2
      have HH2 := Lib.hid HH2
      have HEP := Lib.hid ep
      clear e ep HH
      go_wp2_with (first
        | (go_at_call 53; (with_reducible refine (HH2.out _ B0.out).mono ?_); rintro e w1 ⟨rfl, hb⟩; have B1 := Lib.hid (B0.out.trans (hb.mono B0.out.size)); have K1 := Lib.hid (K0.out.below hb K0.out.lt); obtain ⟨u0, u1, u2, u3, u4, u5⟩ := K1.out.five; clear hb)
        | (go_at_call 52; (with_reducible refine (AR'.out _ B1.out).mono ?_); rintro e w2 ⟨g, c2, m, rfl, hm, hp, ho, hb⟩; generalize (some (⟨g, 0, none⟩ : Addr)) = A2 at hm ⊢; have BF := Lib.hid (B1.out.trans (hb.mono B1.out.size)); have K2 := Lib.hid (K1.out.below hb K1.out.lt); obtain ⟨v0, v1, v2, v3, v4, v5⟩ := K2.out.five; have HM := Lib.hid hm; have HML := Lib.hid (show m.length = n from hp.length_eq.trans HL.out); have HST := Lib.hid (show Sts S m from fun x hx => HSL.out x (hp.mem_iff.1 hx)); have HOK := Lib.hid (show m = l ∨ sy = 3 ∧ Eqv n f l m from .inr ⟨H3.out, hp, fun _ => by rw [HEP.out]; exact ho⟩); clear hb hm hp ho))
      clear t0 t1 t2 t3 t4 t5 u0 u1 u2 u3 u4 u5
      go_loop [5, 19] (fun pv iv => ∃ j : Nat, j ≤ n ∧ pv = .int .i64 ((nm S (m.take j) : Nat) : Int) ∧ iv = .int .i64 (j : Int)) (fun _ iv => n - (intOf iv).toNat)
      case atStart => exact ⟨0, Nat.zero_le _, rfl, rfl⟩
      case round =>
        obtain ⟨j, hj, rfl, rfl⟩ := hrel
        by_cases hlt : j < n
        · obtain ⟨ad, rfl, hbb, hc⟩ := il_at HM.out hlt
          have hjm : j < m.length := by rw [HML.out]; exact hlt
          obtain ⟨y, hy, hy8⟩ : ∃ y : Nat, ig m j = (y : Int) ∧ y < S := by
            have := HST.out _ (ig_mem hjm)
            exact ⟨(ig m j).toNat, by omega, by omega⟩
          have hstep := nm_take (S := S) hjm
          rw [hy, Int.toNat_natCast] at hstep
          have hlim : nm S (m.take (j + 1)) < 65536 := by
            have h1 : nm S (m.take (j + 1)) < S ^ (m.take (j + 1)).length := nm_lt (fun x hx => HST.out x (List.mem_of_mem_take hx))
            rw [List.length_take, Nat.min_eq_left hjm] at h1
            exact Nat.lt_of_lt_of_le h1 (Nat.le_trans (Nat.pow_le_pow_right (by omega) hlt) HSM.out)
          rw [hy] at hc
          obtain ⟨q, hq⟩ : ∃ q, q = nm S (m.take (j + 1)) := ⟨_, rfl⟩
          obtain ⟨p, hp⟩ : ∃ p, p = nm S (m.take j) := ⟨_, rfl⟩
          rw [← hq, ← hp] at hstep
          rw [← hq] at hlim
          rw [← hp]
          obtain ⟨z, hz⟩ : ∃ z, z = p * S := ⟨_, rfl⟩
          rw [← hz] at hstep
          have e1 : IntKind.i64.wrap ((p : Int) * (S : Int)) = (z : Int) := by
            rw [show (p : Int) * (S : Int) = (z : Int) by rw [hz]; simp]
            exact IntWalk.i64_in _ ⟨by omega, by omega⟩
          have e2 : IntKind.i64.wrap ((z : Int) + (y : Int)) = (q : Int) := by
            rw [show (z : Int) + (y : Int) = (q : Int) by omega]
            exact IntWalk.i64_in _ ⟨by omega, by omega⟩
          have HQ := Lib.hid hq
          clear hq hp hz hstep hy hjm
          go_wp2
          go_round
          case rel => exact ⟨j + 1, by omega, by rw [← HQ.out], by go_num⟩
          case measure => simp [intOf]; omega
        · obtain rfl : j = n := by omega
          have HF := Lib.hid (show nm S (m.take j) = nm S m by rw [List.take_of_length_le (by rw [HML.out]; exact Nat.le_refl _)])
          go_wp2
          go_ret
          exact ⟨m, by rw [HF.out]; rfl, HML.out, HOK.out, BF.out⟩
    · have ep : px f n (0, 0) = -1 := e
      have AR' := Lib.hid (fun w' (hb : Below w.heap.size w w') => arranged_neg A c n l (-1) w' (HR.out w' hb) (by omega) h0 (by omega))
      have HH2 := HH.out
      rw [ep] at HH2
      have HH2 := Lib.hid HH2
      have HEP := Lib.hid ep
      clear e ep HH
      go_wp2_with (first
        | (go_at_call 53; (with_reducible refine (HH2.out _ B0.out).mono ?_); rintro e w1 ⟨rfl, hb⟩; have B1 := Lib.hid (B0.out.trans (hb.mono B0.out.size)); have K1 := Lib.hid (K0.out.below hb K0.out.lt); obtain ⟨u0, u1, u2, u3, u4, u5⟩ := K1.out.five; clear hb)
        | (go_at_call 52; (with_reducible refine (AR'.out _ B1.out).mono ?_); rintro e w2 ⟨g, c2, m, rfl, hm, hp, ho, hb⟩; generalize (some (⟨g, 0, none⟩ : Addr)) = A2 at hm ⊢; have BF := Lib.hid (B1.out.trans (hb.mono B1.out.size)); have K2 := Lib.hid (K1.out.below hb K1.out.lt); obtain ⟨v0, v1, v2, v3, v4, v5⟩ := K2.out.five; have HM := Lib.hid hm; have HML := Lib.hid (show m.length = n from hp.length_eq.trans HL.out); have HST := Lib.hid (show Sts S m from fun x hx => HSL.out x (hp.mem_iff.1 hx)); have HOK := Lib.hid (show m = l ∨ sy = 3 ∧ Eqv n f l m from .inr ⟨H3.out, hp, fun h => by rw [HEP.out] at h; exact absurd h (by omega)⟩); clear hb hm hp ho))
      clear t0 t1 t2 t3 t4 t5 u0 u1 u2 u3 u4 u5
      go_loop [5, 19] (fun pv iv => ∃ j : Nat, j ≤ n ∧ pv = .int .i64 ((nm S (m.take j) : Nat) : Int) ∧ iv = .int .i64 (j : Int)) (fun _ iv => n - (intOf iv).toNat)
      case atStart => exact ⟨0, Nat.zero_le _, rfl, rfl⟩
      case round =>
        obtain ⟨j, hj, rfl, rfl⟩ := hrel
        by_cases hlt : j < n
        · obtain ⟨ad, rfl, hbb, hc⟩ := il_at HM.out hlt
          have hjm : j < m.length := by rw [HML.out]; exact hlt
          obtain ⟨y, hy, hy8⟩ : ∃ y : Nat, ig m j = (y : Int) ∧ y < S := by
            have := HST.out _ (ig_mem hjm)
            exact ⟨(ig m j).toNat, by omega, by omega⟩
          have hstep := nm_take (S := S) hjm
          rw [hy, Int.toNat_natCast] at hstep
          have hlim : nm S (m.take (j + 1)) < 65536 := by
            have h1 : nm S (m.take (j + 1)) < S ^ (m.take (j + 1)).length := nm_lt (fun x hx => HST.out x (List.mem_of_mem_take hx))
            rw [List.length_take, Nat.min_eq_left hjm] at h1
            exact Nat.lt_of_lt_of_le h1 (Nat.le_trans (Nat.pow_le_pow_right (by omega) hlt) HSM.out)
          rw [hy] at hc
          obtain ⟨q, hq⟩ : ∃ q, q = nm S (m.take (j + 1)) := ⟨_, rfl⟩
          obtain ⟨p, hp⟩ : ∃ p, p = nm S (m.take j) := ⟨_, rfl⟩
          rw [← hq, ← hp] at hstep
          rw [← hq] at hlim
          rw [← hp]
          obtain ⟨z, hz⟩ : ∃ z, z = p * S := ⟨_, rfl⟩
          rw [← hz] at hstep
          have e1 : IntKind.i64.wrap ((p : Int) * (S : Int)) = (z : Int) := by
            rw [show (p : Int) * (S : Int) = (z : Int) by rw [hz]; simp]
            exact IntWalk.i64_in _ ⟨by omega, by omega⟩
          have e2 : IntKind.i64.wrap ((z : Int) + (y : Int)) = (q : Int) := by
            rw [show (z : Int) + (y : Int) = (q : Int) by omega]
            exact IntWalk.i64_in _ ⟨by omega, by omega⟩
          have HQ := Lib.hid hq
          clear hq hp hz hstep hy hjm
          go_wp2
          go_round
          case rel => exact ⟨j + 1, by omega, by rw [← HQ.out], by go_num⟩
          case measure => simp [intOf]; omega
        · obtain rfl : j = n := by omega
          have HF := Lib.hid (show nm S (m.take j) = nm S m by rw [List.take_of_length_le (by rw [HML.out]; exact Nat.le_refl _)])
          go_wp2
          go_ret
          exact ⟨m, by rw [HF.out]; rfl, HML.out, HOK.out, BF.out⟩
  · have e3 : (sy == 3) = false := by rw [beq_eq_false_iff_ne]; exact h3
    clear h3 HH
    obtain ⟨m, hm⟩ : ∃ m, m = l := ⟨l, rfl⟩
    have HM := Lib.hid (show Reads w0 w0.heap.size A n (il m) by rw [hm]; exact HR.out _ B0.out)
    have HML := Lib.hid (show m.length = n by rw [hm]; exact HL.out)
    have HST := Lib.hid (show Sts S m by rw [hm]; exact HSL.out)
    have HOK := Lib.hid (show m = l ∨ sy = 3 ∧ Eqv n f l m from .inl hm)
    have BF := B0
    clear hm
    go_wp2
    go_loop [5, 19] (fun pv iv => ∃ j : Nat, j ≤ n ∧ pv = .int .i64 ((nm S (m.take j) : Nat) : Int) ∧ iv = .int .i64 (j : Int)) (fun _ iv => n - (intOf iv).toNat)
    case atStart => exact ⟨0, Nat.zero_le _, rfl, rfl⟩
    case round =>
      obtain ⟨j, hj, rfl, rfl⟩ := hrel
      by_cases hlt : j < n
      · obtain ⟨ad, rfl, hbb, hc⟩ := il_at HM.out hlt
        have hjm : j < m.length := by rw [HML.out]; exact hlt
        obtain ⟨y, hy, hy8⟩ : ∃ y : Nat, ig m j = (y : Int) ∧ y < S := by
          have := HST.out _ (ig_mem hjm)
          exact ⟨(ig m j).toNat, by omega, by omega⟩
        have hstep := nm_take (S := S) hjm
        rw [hy, Int.toNat_natCast] at hstep
        have hlim : nm S (m.take (j + 1)) < 65536 := by
          have h1 : nm S (m.take (j + 1)) < S ^ (m.take (j + 1)).length := nm_lt (fun x hx => HST.out x (List.mem_of_mem_take hx))
          rw [List.length_take, Nat.min_eq_left hjm] at h1
          exact Nat.lt_of_lt_of_le h1 (Nat.le_trans (Nat.pow_le_pow_right (by omega) hlt) HSM.out)
        rw [hy] at hc
        obtain ⟨q, hq⟩ : ∃ q, q = nm S (m.take (j + 1)) := ⟨_, rfl⟩
        obtain ⟨p, hp⟩ : ∃ p, p = nm S (m.take j) := ⟨_, rfl⟩
        rw [← hq, ← hp] at hstep
        rw [← hq] at hlim
        rw [← hp]
        obtain ⟨z, hz⟩ : ∃ z, z = p * S := ⟨_, rfl⟩
        rw [← hz] at hstep
        have e1 : IntKind.i64.wrap ((p : Int) * (S : Int)) = (z : Int) := by
          rw [show (p : Int) * (S : Int) = (z : Int) by rw [hz]; simp]
          exact IntWalk.i64_in _ ⟨by omega, by omega⟩
        have e2 : IntKind.i64.wrap ((z : Int) + (y : Int)) = (q : Int) := by
          rw [show (z : Int) + (y : Int) = (q : Int) by omega]
          exact IntWalk.i64_in _ ⟨by omega, by omega⟩
        have HQ := Lib.hid hq
        clear hq hp hz hstep hy hjm
        go_wp2
        go_round
        case rel => exact ⟨j + 1, by omega, by rw [← HQ.out], by go_num⟩
        case measure => simp [intOf]; omega
      · obtain rfl : j = n := by omega
        have HF := Lib.hid (show nm S (m.take j) = nm S m by rw [List.take_of_length_le (by rw [HML.out]; exact Nat.le_refl _)])
        go_wp2
        go_ret
        exact ⟨m, by rw [HF.out]; rfl, HML.out, HOK.out, BF.out⟩
end Go.Proofs.YtedjjhaopohibaaGreatDoor
namespace Go.Proofs.YtedjjhaopohibaaGreatDoor
open Go.RowKit

/-- level, elements of a node by its index -/
def lvO (out : List (Int × List Int)) (k : Nat) : Int := (out.getD k (0, [])).1
def nxO (out : List (Int × List Int)) (k : Nat) : List Int := (out.getD k (0, [])).2
theorem lvO_app {out : List (Int × List Int)} {e : Int × List Int} {k : Nat} (h : k < out.length) : lvO (out ++ [e]) k = lvO out k := by
  simp [lvO, List.getD_eq_getElem?_getD, List.getElem?_append_left h]
theorem nxO_app {out : List (Int × List Int)} {e : Int × List Int} {k : Nat} (h : k < out.length) : nxO (out ++ [e]) k = nxO out k := by
  simp [nxO, List.getD_eq_getElem?_getD, List.getElem?_append_left h]
theorem lvO_new (out : List (Int × List Int)) (e : Int × List Int) : lvO (out ++ [e]) out.length = e.1 := by simp [lvO]
theorem nxO_new (out : List (Int × List Int)) (e : Int × List Int) : nxO (out ++ [e]) out.length = e.2 := by simp [nxO]
/-- valid nodes -/
def Gd (S L : Nat) (out : List (Int × List Int)) : Prop := ∀ i, i < out.length → Nd (S : Int) L (lvO out) i (lvO out i) (nxO out i)
/-- a number of a level -/
def Lvl (S : Nat) (out : List (Int × List Int)) (l : Nat) (r : Int) : Prop := 0 ≤ r ∧ (l = 0 → r < S) ∧ (0 < l → r < out.length ∧ lvO out r.toNat = l)
/-- a number of a level that leads to what a function says -/
def Mn (S : Nat) (out : List (Int × List Int)) (l : Nat) (f : List Int → Int) (r : Int) : Prop := Lvl S out l r ∧ ∀ p, p.length = l → Sts S p → fo (nxO out) r p = f p
theorem Lvl.app {S : Nat} {out : List (Int × List Int)} {e : Int × List Int} {l : Nat} {r : Int} (h : Lvl S out l r) : Lvl S (out ++ [e]) l r :=
  ⟨h.1, h.2.1, fun h0 => by
    have h1 := h.1
    obtain ⟨h2, h3⟩ := h.2.2 h0
    refine ⟨by rw [List.length_append, List.length_singleton]; omega, ?_⟩
    rw [lvO_app (by omega)]; exact h3⟩
/-- the element of a node is of the level below -/
theorem Lvl.down {S L : Nat} {out : List (Int × List Int)} {l : Nat} {r : Int} (hg : Gd S L out) (h : Lvl S out (l + 1) r) {s : Int} (h0 : 0 ≤ s) (h1 : s < S) : Lvl S out l (ig (nxO out r.toNat) s.toNat) := by
  have hr := h.1
  obtain ⟨h2, h3⟩ := h.2.2 (by omega)
  obtain ⟨n1, n2, n3, n4⟩ := hg r.toNat (by omega)
  obtain ⟨e1, e2, e3⟩ := n4 s.toNat (by omega)
  rw [h3] at e2 e3
  refine ⟨e1, fun hl => e2 (by omega), fun hl => ?_⟩
  obtain ⟨e4, e5⟩ := e3 (by omega)
  exact ⟨by omega, by rw [e5]; omega⟩
theorem fo_app {S L : Nat} {out : List (Int × List Int)} {e : Int × List Int} (hg : Gd S L out) : ∀ (p : List Int) (r : Int), Lvl S out p.length r → Sts S p → fo (nxO (out ++ [e])) r p = fo (nxO out) r p
  | [], _, _, _ => rfl
  | s :: q, r, h, hs => by
    have hr := h.1
    obtain ⟨h2, h3⟩ := h.2.2 (by simp)
    have hs1 := hs s (by simp)
    rw [fo, fo, nxO_app (by omega)]
    exact fo_app hg q _ (Lvl.down hg h hs1.1 hs1.2) (fun x hx => hs x (by simp [hx]))
theorem Mn.app {S L : Nat} {out : List (Int × List Int)} {e : Int × List Int} {l : Nat} {f : List Int → Int} {r : Int} (hg : Gd S L out) (h : Mn S out l f r) : Mn S (out ++ [e]) l f r :=
  ⟨h.1.app, fun p hp hs => by rw [fo_app hg p r (by rw [hp]; exact h.1) hs]; exact h.2 p hp hs⟩
theorem Gd.push {S L l : Nat} {out : List (Int × List Int)} {ys : List Int} (hg : Gd S L out) (hl : l + 1 ≤ L) (hy : ys.length = S) (h : ∀ s, s < S → Lvl S out l (ig ys s)) : Gd S L (out ++ [(((l + 1 : Nat) : Int), ys)]) := by
  intro i hi
  rw [List.length_append, List.length_singleton] at hi
  by_cases hlt : i < out.length
  · obtain ⟨n1, n2, n3, n4⟩ := hg i hlt
    rw [lvO_app hlt, nxO_app hlt]
    refine ⟨n1, n2, n3, fun s hs => ?_⟩
    obtain ⟨e1, e2, e3⟩ := n4 s hs
    refine ⟨e1, e2, fun h1 => ?_⟩
    obtain ⟨e4, e5⟩ := e3 h1
    exact ⟨e4, by rw [lvO_app (by omega)]; exact e5⟩
  · obtain rfl : i = out.length := by omega
    rw [lvO_new, nxO_new]
    refine ⟨by simp only; omega, by simp only; omega, by simp only; omega, fun s hs => ?_⟩
    simp only at hs ⊢
    obtain ⟨e1, e2, e3⟩ := h s (by omega)
    refine ⟨e1, fun h1 => e2 (by omega), fun h1 => ?_⟩
    obtain ⟨e4, e5⟩ := e3 (by omega)
    exact ⟨e4, by rw [lvO_app (by omega), e5]; omega⟩
theorem Mn.push {S L l : Nat} {out : List (Int × List Int)} {ys : List Int} {f : List Int → Int} (hg : Gd S L out) (hl : l + 1 ≤ L) (hy : ys.length = S) (h : ∀ s, s < S → Mn S out l (fun p => f ((s : Int) :: p)) (ig ys s)) :
    Mn S (out ++ [(((l + 1 : Nat) : Int), ys)]) (l + 1) f (out.length : Int) := by
  refine ⟨⟨by omega, by omega, fun _ => ⟨by rw [List.length_append, List.length_singleton]; omega, by rw [Int.toNat_natCast, lvO_new]⟩⟩, fun p hp hs => ?_⟩
  cases p with
  | nil => simp at hp
  | cons s q =>
    have hs1 := hs s (by simp)
    obtain ⟨n, rfl⟩ : ∃ n : Nat, s = (n : Int) := ⟨s.toNat, by omega⟩
    rw [fo, Int.toNat_natCast, nxO_new, Int.toNat_natCast]
    have hn : n < S := by omega
    have hq : q.length = l := by simpa using hp
    have hsq : Sts S q := fun x hx => hs x (by simp [hx])
    rw [fo_app hg q _ (by rw [hq]; exact (h n hn).1) hsq]
    exact (h n hn).2 q hq hsq
/-- one list of nodes is the beginning of another -/
def Pre (a b : List (Int × List Int)) : Prop := ∃ c, b = a ++ c
theorem Mn.pre {S L : Nat} {a b : List (Int × List Int)} {l : Nat} {f : List Int → Int} {r : Int} (hb : Gd S L b) (hp : Pre a b) (hga : Gd S L a) (h : Mn S a l f r) : Mn S b l f r := by
  obtain ⟨c, rfl⟩ := hp
  induction c generalizing a with
  | nil => simpa using h
  | cons e c ih =>
    have e1 : a ++ e :: c = (a ++ [e]) ++ c := by simp
    rw [e1] at hb ⊢
    refine ih (a := a ++ [e]) ?_ (h.app hga) hb
    intro i hi
    have hi2 : i < (a ++ [e] ++ c).length := by rw [List.length_append]; omega
    obtain ⟨n1, n2, n3, n4⟩ := hb i hi2
    have e2 : ∀ k, k < (a ++ [e]).length → lvO (a ++ [e] ++ c) k = lvO (a ++ [e]) k ∧ nxO (a ++ [e] ++ c) k = nxO (a ++ [e]) k := fun k hk => by
      simp only [lvO, nxO, List.getD_eq_getElem?_getD, List.getElem?_append_left hk, and_self]
    rw [(e2 i hi).1] at n1 n2 n4
    rw [(e2 i hi).2] at n3 n4
    refine ⟨n1, n2, n3, fun s hs => ?_⟩
    obtain ⟨q1, q2, q3⟩ := n4 s hs
    refine ⟨q1, q2, fun h1 => ?_⟩
    obtain ⟨q4, q5⟩ := q3 h1
    exact ⟨q4, by rw [← (e2 _ (by omega)).1]; exact q5⟩
end Go.Proofs.YtedjjhaopohibaaGreatDoor
