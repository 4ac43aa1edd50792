/- The walks of Right at any grid, and of Get at any valid grid. -/
import Derived.Test.YtbbehbgfdlamfaaGwi
import Derived.Test.YtbbehbgfdlamfaaTMem
namespace Go.Proofs.Ytbbehbgfdlamfaa
open Go.RowKit

section
variable (A : Option Addr) (n c B : Nat) (l : List Int) (w : World)
theorem gfind_no (h : Reads w B A n (il l)) (hn : n ≤ 1000000) (hk : ∀ i, i < n → nst (ig l i) = false) :
    Calls Try.prog 28 #[.slice A n c, .func (.func 21) #[] #[]] w fun e w' => e = .returned (.int .i64 (-1)) ∧ w = w' := by
  have H := Lib.hid h
  have HK := Lib.hid hk
  clear h hk
  go_enter Try.func28, Try.ntmps28
  go_wp2
  go_loop [8] (fun iv => ∃ j : Nat, j ≤ n ∧ iv = .int .i64 (j : Int)) (fun iv => n - (intOf iv).toNat)
  case atStart => exact ⟨0, Nat.zero_le _, rfl⟩
  case round =>
    obtain ⟨j, hj, rfl⟩ := hrel
    by_cases hlt : j < n
    · obtain ⟨ad, rfl, hb, hc⟩ := il_at H.out hlt
      have E := Lib.hid (fun w => by have := gstate_any (ig l j) w; rwa [HK.out j hlt] at this)
      generalize ig l j = x at hc E
      go_wp2_with (go_at_call 21; (with_reducible refine (E.out _).mono ?_); rintro e w' ⟨rfl, rfl⟩)
      go_round
      case rel => exact ⟨j + 1, by omega, by go_num⟩
      case measure => simp [intOf]; omega
    · obtain rfl : j = n := by omega
      go_wp2
      go_ret
      exact ⟨rfl, rfl⟩
theorem gfind_yes (h : Reads w B A n (il l)) (hn : n ≤ 1000000) (hk : ∃ i, i < n ∧ nst (ig l i) = true) :
    Calls Try.prog 28 #[.slice A n c, .func (.func 21) #[] #[]] w fun e w' => (∃ r : Nat, e = .returned (.int .i64 (r : Nat))) ∧ w = w' := by
  have H := Lib.hid h
  have HK := Lib.hid hk
  clear h hk
  go_enter Try.func28, Try.ntmps28
  go_wp2
  go_loop [8] (fun iv => ∃ j : Nat, j ≤ n ∧ iv = .int .i64 (j : Int) ∧ Hid (∀ i, i < j → nst (ig l i) = false)) (fun iv => n - (intOf iv).toNat)
  case atStart => exact ⟨0, Nat.zero_le _, rfl, Lib.hid (fun i hi => absurd hi (by omega))⟩
  case round =>
    obtain ⟨j, hj, rfl, HN⟩ := hrel
    by_cases hlt : j < n
    · obtain ⟨ad, rfl, hb, hc⟩ := il_at H.out hlt
      have E := Lib.hid (fun w => gstate_any (ig l j) w)
      have HX := Lib.hid (fun (hx : nst (ig l j) = false) i (hi : i < j + 1) => show nst (ig l i) = false from by
        by_cases e : i < j
        · exact HN.out i e
        · obtain rfl : i = j := by omega
          exact hx)
      generalize nst (ig l j) = b at E HX
      generalize ig l j = x at hc E
      cases b with
      | true =>
        go_wp2_with (go_at_call 21; (with_reducible refine (E.out _).mono ?_); rintro e w' ⟨rfl, rfl⟩)
        go_ret
        exact ⟨⟨j, rfl⟩, rfl⟩
      | false =>
        go_wp2_with (go_at_call 21; (with_reducible refine (E.out _).mono ?_); rintro e w' ⟨rfl, rfl⟩)
        go_round
        case rel => exact ⟨j + 1, by omega, by go_num, Lib.hid (HX.out (by first | exact rfl | exact trivial))⟩
        case measure => simp [intOf]; omega
    · exfalso
      obtain ⟨i, hi, h⟩ := HK.out
      rw [HN.out i (by omega)] at h
      cases h
/-- no cell with a state that is none -/
def cls (l : List Int) : Bool := l.all fun s => !nst s
theorem cls_iff (l : List Int) : cls l = true ↔ ∀ i, i < l.length → nst (ig l i) = false := by
  simp only [cls, List.all_eq_true, Bool.not_eq_true', ig, List.getD]
  constructor
  · intro h i hi
    rw [List.getElem?_eq_getElem hi]
    exact h _ (List.getElem_mem hi)
  · intro h x hx
    obtain ⟨i, hi, rfl⟩ := List.mem_iff_getElem.1 hx
    have := h i hi
    rw [List.getElem?_eq_getElem hi] at this
    exact this
theorem ghas_any (h : Reads w B A n (il l)) (hn : n ≤ 1000000) :
    Calls Try.prog 23 #[.slice A n c, .func (.func 21) #[] #[]] w fun e w' => e = .returned (.bool (!cls l)) ∧ w = w' := by
  have L := reads_len h
  cases hc : cls l with
  | true =>
    have C := Lib.hid (gfind_no A n c B l w h hn (by rw [← L]; exact (cls_iff l).1 hc))
    clear h L
    go_enter Try.func23, Try.ntmps23
    go_wp2_with (go_at_call 28; (with_reducible refine C.out.mono ?_); rintro e w' ⟨rfl, rfl⟩)
    go_ret
    exact ⟨rfl, rfl⟩
  | false =>
    have C := Lib.hid (gfind_yes A n c B l w h hn (by
      apply Classical.byContradiction
      intro hno
      have : cls l = true := (cls_iff l).2 (fun i hi => by
        cases e : nst (ig l i) with
        | false => rfl
        | true => exact absurd ⟨i, by omega, e⟩ hno)
      rw [hc] at this; cases this))
    clear h L
    go_enter Try.func23, Try.ntmps23
    go_wp2_with (go_at_call 28; (with_reducible refine C.out.mono ?_); rintro e w' ⟨⟨r, rfl⟩, rfl⟩)
    go_ret
    exact ⟨rfl, rfl⟩
end
/-- whether a grid is valid -/
def grt (W H E : Int) (l : List Int) : Bool := vsh W H E && (decide ((l.length : Int) = W * H) && cls l)
section
variable (A : Option Addr) (W H E : Int) (n c : Nat) (l : List Int) (w : World)
set_option maxHeartbeats 1000000 in
theorem gright_any (h : Reads w w.heap.size A n (il l)) (hn : n ≤ 1000000) :
    Calls Try.prog 14 #[.agg #[.int .i64 W, .int .i64 H, .int .i64 E, .slice A n c]] w fun e w' => e = .returned (.bool (grt W H E l)) ∧ Below w.heap.size w w' := by
  have L := reads_len h
  have PB := fun a => prod_bd ((vsh_iff W H E).1 a).1.1 ((vsh_iff W H E).1 a).1.2 ((vsh_iff W H E).1 a).2.1.1 ((vsh_iff W H E).1 a).2.1.2
  have S := Lib.hid (fun w => gshape_any W H E w)
  have K := Blk.new w 24 #[.int .i64 W, .int .i64 H, .int .i64 E, .slice A n c]
  have HB := (Below.refl w.heap.size w).alloc (Nat.le_refl _) (.cells #[.int .i64 W, .int .i64 H, .int .i64 E, .slice A n c] 24)
  have C := Lib.hid (ghas_any A n c w.heap.size l _ (h.below HB) hn)
  have B := Lib.hid HB
  obtain ⟨k0, k1, k2, k3, k4⟩ := K.four
  clear K h HB
  unfold grt
  generalize cls l = z at *
  rw [L]
  generalize vsh W H E = a at *
  clear L
  cases a with
  | false =>
    clear PB C
    go_enter Try.func14, Try.ntmps14
    go_wp2_with (go_at_call 20; (with_reducible refine (S.out _).mono ?_); rintro e w' ⟨rfl, rfl⟩)
    go_ret
    exact ⟨rfl, B.out⟩
  | true =>
    obtain ⟨p1, p2⟩ := PB rfl
    clear PB
    by_cases e : (n : Int) = W * H
    · cases z with
      | false =>
        rw [decide_eq_true e]
        go_enter Try.func14, Try.ntmps14
        go_wp2_with (first | (go_at_call 20; (with_reducible refine (S.out _).mono ?_); rintro e w' ⟨rfl, rfl⟩) | (go_at_call 23; (with_reducible refine C.out.mono ?_); rintro e w' ⟨rfl, rfl⟩))
        go_ret
        exact ⟨rfl, B.out⟩
      | true =>
        rw [decide_eq_true e]
        go_enter Try.func14, Try.ntmps14
        go_wp2_with (first | (go_at_call 20; (with_reducible refine (S.out _).mono ?_); rintro e w' ⟨rfl, rfl⟩) | (go_at_call 23; (with_reducible refine C.out.mono ?_); rintro e w' ⟨rfl, rfl⟩))
        go_ret
        exact ⟨rfl, B.out⟩
    · rw [decide_eq_false e]
      clear C
      go_enter Try.func14, Try.ntmps14
      go_wp2_with (go_at_call 20; (with_reducible refine (S.out _).mono ?_); rintro e w' ⟨rfl, rfl⟩)
      go_ret
      exact ⟨rfl, B.out⟩
/-- the state at any position of a valid grid -/
def gst (W H E : Int) (l : List Int) (x y : Int) : Int := if (wf E W x && wf E H y) = true then ig l (wi W H E x y).toNat else 0
set_option maxHeartbeats 1000000 in
theorem gget_any (x y : Int) (h : Reads w w.heap.size A n (il l)) (hr : grt W H E l = true) :
    Calls Try.prog 12 #[.agg #[.int .i64 W, .int .i64 H, .int .i64 E, .slice A n c], .int .i64 x, .int .i64 y] w fun e w' => e = .returned (.int .i64 (gst W H E l x y)) ∧ Below w.heap.size w w' := by
  have L := reads_len h
  have hr' := hr
  simp only [grt, Bool.and_eq_true, decide_eq_true_eq] at hr'
  obtain ⟨hs, hl, hc⟩ := hr'
  obtain ⟨⟨w1, w2⟩, ⟨h1, h2⟩, p1, e0, e2⟩ := (vsh_iff W H E).1 hs
  have hn : n ≤ 1000000 := by omega
  have K := Blk.new w 24 #[.int .i64 W, .int .i64 H, .int .i64 E, .slice A n c]
  have HB := (Below.refl w.heap.size w).alloc (Nat.le_refl _) (.cells #[.int .i64 W, .int .i64 H, .int .i64 E, .slice A n c] 24)
  generalize hw0 : w.alloc (.cells #[.int .i64 W, .int .i64 H, .int .i64 E, .slice A n c] 24) = w0 at K HB
  have hR : Reads w0 w0.heap.size A n (il l) := h.later HB
  have R := Lib.hid (by have := gright_any A W H E n c l w0 hR hn; rwa [hr] at this)
  have I := Lib.hid (fun w => gindex_any A W H E n c w E x y e0 e2 w1 w2 h1 h2)
  have WB := fun h => wi_bd (x := x) (y := y) w1 h1 e0 e2 h
  have B := Lib.hid HB
  have HR := Lib.hid hR
  clear h hR HB hs hc
  have KH := Lib.hid K
  obtain ⟨k0, k1, k2, k3, k4⟩ := K.four
  clear K
  unfold gst
  generalize (wf E W x && wf E H y) = b at *
  generalize wi W H E x y = i at *
  cases b with
  | false =>
    clear WB
    go_enter Try.func12, Try.ntmps12
    go_upto_region 1 with (fail)
    clear hw0
    go_wp2_with (first
      | (go_at_call 14; (with_reducible refine R.out.mono ?_); rintro e w3 ⟨rfl, hb⟩; have B3 := Lib.hid (B.out.trans (hb.mono B.out.size)); obtain ⟨j0, j1, j2, j3, j4⟩ := (KH.out.below hb KH.out.lt).four; clear hb)
      | (go_at_call 17; (with_reducible refine (I.out _).mono ?_); rintro e w4 ⟨rfl, hb⟩; have B4 := Lib.hid (B3.out.trans (hb.mono B3.out.size)); clear hb))
    go_ret
    exact ⟨rfl, B4.out⟩
  | true =>
    obtain ⟨b1, b2⟩ := WB rfl
    have b3 : i < (n : Int) := by omega
    clear WB b2
    obtain ⟨k, rfl⟩ : ∃ k : Nat, i = (k : Int) := ⟨i.toNat, by omega⟩
    have b4 : k < n := by omega
    obtain ⟨ad, rfl, hbb, hcc⟩ := il_at HR.out b4
    rw [Int.toNat_natCast]
    generalize ig l k = s at *
    go_enter Try.func12, Try.ntmps12
    go_upto_region 1 with (fail)
    clear hw0
    have HC := Lib.hid hcc
    clear hcc
    have HBB := Lib.hid hbb
    clear hbb
    go_wp2_with (first
      | (go_at_call 14; (with_reducible refine R.out.mono ?_); rintro e w3 ⟨rfl, hb⟩; have B3 := Lib.hid (B.out.trans (hb.mono B.out.size)); have K3 := Lib.hid (KH.out.below hb KH.out.lt); have C3 := Lib.hid ((hb.cell (by rw [block_of_add]; exact HBB.out)).trans HC.out); have S3 := Lib.hid hb.size; obtain ⟨j0, j1, j2, j3, j4⟩ := K3.out.four; clear hb)
      | (go_at_call 17; (with_reducible refine (I.out _).mono ?_); rintro e w4 ⟨rfl, hb⟩; have B4 := Lib.hid (B3.out.trans (hb.mono B3.out.size)); obtain ⟨m0, m1, m2, m3, m4⟩ := (K3.out.below hb K3.out.lt).four; have c4 := (hb.cell (by rw [block_of_add]; exact Nat.lt_of_lt_of_le HBB.out S3.out)).trans C3.out; clear hb))
    go_ret
    exact ⟨rfl, B4.out⟩
end
end Go.Proofs.Ytbbehbgfdlamfaa
