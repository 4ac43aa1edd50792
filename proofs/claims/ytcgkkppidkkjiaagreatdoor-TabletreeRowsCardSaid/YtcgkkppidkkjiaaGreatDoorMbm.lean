/- deciders at a table with one row: its closure, IndexFunc and ContainsFunc with it. -/
/- deciders at a table with one row. -/
/- The examples' table, the trees of Read and Constant, as plain mathematics; Line; Tree and Row of the table. -/
import Derived.Test.YtcgkkppidkkjiaaGreatDoorMae
import Derived.Test.YtcgkkppidkkjiaaGreatDoorMbj
import Derived.Test.YtcgkkppidkkjiaaGreatDoorMba
import Derived.Deep.RegionHeldLaw
import Derived.Test.YtcgkkppidkkjiaaGreatDoorMbl
import Derived.Test.YtcgkkppidkkjiaaGreatDoorMbi
namespace Go.Proofs.YtcgkkppidkkjiaaGreatDoor
open Go.RowKit

/-- whether the first row decides for an input's number -/
def pd (T : Tab) (S : Nat) (x : Int) : Bool := (av T (dg S T.n x.toNat) (T.ri 0) (T.ro 0)).2
set_option maxRecDepth 100000 in
set_option maxHeartbeats 8000000 in
theorem dec1_any (S : Nat) (AH : Option Addr) (cH : Nat) (AV : Option Addr) (cV : Nat) (AR : Option Addr) (cR : Nat) (T : Tab) (tb : Nat) (x : Int) (w : World) (hM : Mat w) (h : TR w AH AV AR T) (hb : Bd T) (ht : Rt T) (h1 : 1 ≤ T.nr) (hS : T.st = (S : Int)) (hx0 : 0 ≤ x) (hx : x < 1000000)
    (hk : Blk w tb 26 #[.int .i64 T.st, .int .i64 T.sy, .slice AH T.n cH, .slice AV T.nv cV, .slice AR T.nr cR]) :
    Calls Tryz.prog 49 #[.int .i64 x, .pointer (some ⟨tb, 0, none⟩)] w fun e w' => e = .returned (.bool (pd T S x)) ∧ Below w.heap.size w w' := by
  have hs1 : 2 ≤ S := by have := ht.s1; omega
  have hs2 : S ≤ 8 := by have := ht.s2; omega
  have hn2 := ht.hd.1.2
  obtain ⟨k, rfl⟩ : ∃ k : Nat, x = (k : Int) := ⟨x.toNat, by omega⟩
  have IN := Lib.hid (show ∀ w', Below w.heap.size w w' → Calls Tryz.prog 28 #[.agg #[.int .i64 T.st, .int .i64 T.sy, .slice AH T.n cH, .slice AV T.nv cV, .slice AR T.nr cR], .int .i64 (k : Int)] w' fun e w'' => ∃ g, e = .returned (.slice (some ⟨g, 0, none⟩) T.n T.n) ∧ Reads w'' w''.heap.size (some ⟨g, 0, none⟩) T.n (il (dg S T.n k)) ∧ Below w.heap.size w w'' ∧ Below w'.heap.size w' w'' from fun w' hb' => by
    rw [hS]
    exact (input_any S k T.sy AH T.n cH AV T.nv cV AR T.nr cR w' hs1 hs2 (by omega) (by omega)).mono fun e w'' ⟨g, he, hk, hb⟩ => ⟨g, he, by
      have := Reads.of_blk1 (l := dg S T.n k) hk
      rwa [dg_len] at this, hb'.trans (hb.mono hb'.size), hb⟩)
  have MA := Lib.hid (show ∀ g w', Below w.heap.size w w' → Reads w' w'.heap.size (some ⟨g, 0, none⟩) T.n (il (dg S T.n k)) → Calls Tryz.prog 25 #[.agg #[.int .i64 T.st, .int .i64 T.sy, .slice AH T.n cH, .slice AV T.nv cV, .slice AR T.nr cR], .int .i64 0, .slice (some ⟨g, 0, none⟩) T.n T.n] w' fun e w'' => (∃ y, e = .returned (.tuple #[.int .i64 y, .bool (pd T S (k : Int))])) ∧ Below w.heap.size w w'' ∧ Below w'.heap.size w' w'' from fun g w' hb' hr => by
    have := match_any AH cH AV cV AR cR T (some ⟨g, 0, none⟩) T.n 0 (dg S T.n k) w' (hM.below hb' hM.1) (h.later hb') hb ht hr (Nat.le_refl _) (by rw [hS]; exact sts_als.1 (sts_dg (by omega) _ _)) h1
    exact this.mono fun e w'' ⟨he, hx⟩ => ⟨⟨_, he⟩, hb'.trans (hx.mono hb'.size), hx⟩)
  have KP := Lib.hid (fun W (hb' : Below w.heap.size w W) => show W.cell? ⟨tb, 0, none⟩ = some (.int .i64 T.st) ∧ W.cell? ⟨tb, 1, none⟩ = some (.int .i64 T.sy) ∧ W.cell? ⟨tb, 2, none⟩ = some (.slice AH T.n cH) ∧ W.cell? ⟨tb, 3, none⟩ = some (.slice AV T.nv cV) ∧ W.cell? ⟨tb, 4, none⟩ = some (.slice AR T.nr cR) from
    have q := (hk.below hb' hk.lt).five
    ⟨q.1, q.2.1, q.2.2.1, q.2.2.2.1, q.2.2.2.2.1⟩)
  clear h hb ht hM hS h1 hk hx0 hx
  obtain ⟨st, ky, n, f, nv, v, nr, ri, ro⟩ := T
  simp only at *
  generalize hP : pd ⟨st, ky, n, f, nv, v, nr, ri, ro⟩ S (k : Int) = P at MA ⊢
  clear hP
  have S1 := KP.out w (Below.refl _ _)
  go_enter Tryz.func49, Tryz.ntmps49
  go_wp2_with fail
  go_region_held_law (fun W => W.cell? ⟨tb, 0, none⟩ = some (.int .i64 st) ∧ W.cell? ⟨tb, 1, none⟩ = some (.int .i64 ky) ∧ W.cell? ⟨tb, 2, none⟩ = some (.slice AH n cH) ∧ W.cell? ⟨tb, 3, none⟩ = some (.slice AV nv cV) ∧ W.cell? ⟨tb, 4, none⟩ = some (.slice AR nr cR))
    (first | assumption | (refine KP.out _ ?_; (with_reducible (repeat (first | assumption | exact Below.refl _ _ | refine Below.drew' ?_ | refine Below.alloc' ?_ _))); done) | go_keep)
    (first
    | (go_at_call 28; (with_reducible refine (IN.out _ ?_).mono ?_); (with_reducible (repeat (first | assumption | exact Below.refl _ _ | refine Below.drew' ?_ | refine Below.alloc' ?_ _))); rintro e wa ⟨g, rfl, hr, ha1, ha2⟩)
    | (go_at_call 25; (with_reducible refine (MA.out g _ ha1 hr).mono ?_); rintro e wb ⟨⟨y, rfl⟩, hb1, hb2⟩))
  all_goals
    go_wp2_with fail
    go_ret
    exact ⟨rfl, hb1⟩
section
variable (S : Nat) (T : Tab) (tb : Nat) (AI : Option Addr) (cI : Nat) (l : List Int) (w : World)
set_option maxRecDepth 100000 in
set_option maxHeartbeats 4000000 in
theorem indexd_no (n : Nat) (D : ∀ w', Below w.heap.size w w' → ∀ x ∈ l, Calls Tryz.prog 49 #[.int .i64 x, .pointer (some ⟨tb, 0, none⟩)] w' fun e w'' => e = .returned (.bool (pd T S x)) ∧ Below w'.heap.size w' w'') (h : Reads w w.heap.size AI n (il l)) (hn : n ≤ 1000000) (ha : ∀ x ∈ l, pd T S x = false) :
    Calls Tryz.prog 81 #[.slice AI n cI, .func (.func 49) #[] #[.pointer (some ⟨tb, 0, none⟩)]] w fun e w' => e = .returned (.int .i64 (-1)) ∧ Below w.heap.size w w' := by
  have HL := Lib.hid (reads_len h)
  have H := Lib.hid h
  have HA := Lib.hid ha
  have HD := Lib.hid D
  clear h ha D
  go_enter Tryz.func81, Tryz.ntmps81
  go_wp2
  go_loopw [8] (fun iv wr => ∃ j : Nat, j ≤ n ∧ iv = .int .i64 (j : Int) ∧ Hid (Below w.heap.size w wr)) (fun iv _ => n - (intOf iv).toNat)
  case atStart => exact ⟨0, Nat.zero_le _, rfl, Lib.hid (Below.refl _ _)⟩
  case round =>
    obtain ⟨j, hj, rfl, HB⟩ := hrel
    by_cases hlt : j < n
    · obtain ⟨ad, rfl, hb, hc⟩ := il_at (H.out.below HB.out) hlt
      have hm := ig_mem (l := l) (j := j) (by rw [HL.out]; exact hlt)
      have E := HD.out wr HB.out _ hm
      rw [HA.out _ hm] at E
      have E := Lib.hid E
      clear hm
      generalize ig l j = x at hc E
      go_wp2_with (go_at_call 49; (with_reducible refine E.out.mono ?_); rintro e w' ⟨rfl, hb1⟩; have B1 := Lib.hid (HB.out.trans (hb1.mono HB.out.size)); clear hb1)
      go_roundw
      case rel => exact ⟨j + 1, by omega, by go_num, B1⟩
      case measure => simp [intOf]; omega
    · obtain rfl : j = n := by omega
      go_wp2
      go_ret
      exact ⟨rfl, HB.out⟩
set_option maxRecDepth 100000 in
set_option maxHeartbeats 4000000 in
theorem indexd_yes (n : Nat) (D : ∀ w', Below w.heap.size w w' → ∀ x ∈ l, Calls Tryz.prog 49 #[.int .i64 x, .pointer (some ⟨tb, 0, none⟩)] w' fun e w'' => e = .returned (.bool (pd T S x)) ∧ Below w'.heap.size w' w'') (h : Reads w w.heap.size AI n (il l)) (hn : n ≤ 1000000) (ha : ∃ x ∈ l, pd T S x = true) :
    Calls Tryz.prog 81 #[.slice AI n cI, .func (.func 49) #[] #[.pointer (some ⟨tb, 0, none⟩)]] w fun e w' => (∃ r : Nat, e = .returned (.int .i64 (r : Nat))) ∧ Below w.heap.size w w' := by
  have HL := Lib.hid (reads_len h)
  have H := Lib.hid h
  have HA := Lib.hid ha
  have HD := Lib.hid D
  clear h ha D
  go_enter Tryz.func81, Tryz.ntmps81
  go_wp2
  go_loopw [8] (fun iv wr => ∃ j : Nat, j ≤ n ∧ iv = .int .i64 (j : Int) ∧ Hid (∀ i, i < j → pd T S (ig l i) = false) ∧ Hid (Below w.heap.size w wr)) (fun iv _ => n - (intOf iv).toNat)
  case atStart => exact ⟨0, Nat.zero_le _, rfl, Lib.hid (fun i hi => absurd hi (by omega)), Lib.hid (Below.refl _ _)⟩
  case round =>
    obtain ⟨j, hj, rfl, HN, HB⟩ := hrel
    by_cases hlt : j < n
    · obtain ⟨ad, rfl, hb, hc⟩ := il_at (H.out.below HB.out) hlt
      have E := HD.out wr HB.out _ (ig_mem (l := l) (j := j) (by rw [HL.out]; exact hlt))
      have HF := Lib.hid (show pd T S (ig l j) = false → ∀ i, i < j + 1 → pd T S (ig l i) = false from fun h i hi => by
        by_cases e : i = j
        · subst e; exact h
        · exact HN.out i (by omega))
      generalize pd T S (ig l j) = q at E HF
      generalize ig l j = x at hc E
      cases q with
      | false =>
        have HF2 := Lib.hid (HF.out rfl)
        clear HF
        have E := Lib.hid E
        go_wp2_with (go_at_call 49; (with_reducible refine E.out.mono ?_); rintro e w' ⟨rfl, hb1⟩; have B1 := Lib.hid (HB.out.trans (hb1.mono HB.out.size)); clear hb1)
        go_roundw
        case rel => exact ⟨j + 1, by omega, by go_num, HF2, B1⟩
        case measure => simp [intOf]; omega
      | true =>
        have E := Lib.hid E
        go_wp2_with (go_at_call 49; (with_reducible refine E.out.mono ?_); rintro e w' ⟨rfl, hb1⟩; have B1 := Lib.hid (HB.out.trans (hb1.mono HB.out.size)); clear hb1)
        go_ret
        exact ⟨⟨j, rfl⟩, B1.out⟩
    · exfalso
      obtain rfl : j = n := by omega
      obtain ⟨x, hx, hp⟩ := HA.out
      obtain ⟨i, hi, rfl⟩ := mem_ig hx
      rw [HN.out i (by rw [← HL.out]; exact hi)] at hp
      cases hp
theorem containsd_any (n : Nat) (D : ∀ w', Below w.heap.size w w' → ∀ x ∈ l, Calls Tryz.prog 49 #[.int .i64 x, .pointer (some ⟨tb, 0, none⟩)] w' fun e w'' => e = .returned (.bool (pd T S x)) ∧ Below w'.heap.size w' w'') (h : Reads w w.heap.size AI n (il l)) (hn : n ≤ 1000000) :
    Calls Tryz.prog 48 #[.slice AI n cI, .func (.func 49) #[] #[.pointer (some ⟨tb, 0, none⟩)]] w fun e w' => e = .returned (.bool (l.any (pd T S))) ∧ Below w.heap.size w w' := by
  cases ha : l.any (pd T S) with
  | true =>
    have I := Lib.hid (indexd_yes S T tb AI cI l w n D h hn (List.any_eq_true.1 ha))
    clear D h ha
    go_enter Tryz.func48, Tryz.ntmps48
    go_wp2_with (go_at_call 81; (with_reducible refine I.out.mono ?_); rintro e w' ⟨⟨r, rfl⟩, hb⟩; have hr : decide ((0 : Int) ≤ (r : Int)) = true := decide_eq_true (by omega))
    go_ret
    exact ⟨by simp, hb⟩
  | false =>
    have I := Lib.hid (indexd_no S T tb AI cI l w n D h hn (fun x hx => by
      have := List.any_eq_false.1 ha x hx
      simpa using this))
    clear D h ha
    go_enter Tryz.func48, Tryz.ntmps48
    go_wp2_with (go_at_call 81; (with_reducible refine I.out.mono ?_); rintro e w' ⟨rfl, hb⟩)
    go_ret
    exact ⟨rfl, hb⟩
end
end Go.Proofs.YtcgkkppidkkjiaaGreatDoor
namespace Go.Proofs.YtcgkkppidkkjiaaGreatDoor
open Go.RowKit

set_option maxRecDepth 100000 in
set_option maxHeartbeats 4000000 in
theorem dec_one (S : Nat) (AH : Option Addr) (cH : Nat) (AV : Option Addr) (cV : Nat) (AR : Option Addr) (cR : Nat) (T : Tab) (AI : Option Addr) (q cI : Nat) (l : List Int) (w : World) (hM : Mat w) (h : TR w AH AV AR T) (hb : Bd T) (ht : Rt T) (h1 : T.nr = 1) (hS : T.st = (S : Int)) (hI : Reads w w.heap.size AI q (il l)) (hq : q ≤ 1000000) (hl : ∀ x ∈ l, 0 ≤ x ∧ x < 1000000) :
    Calls Tryz.prog 29 #[.agg #[.int .i64 T.st, .int .i64 T.sy, .slice AH T.n cH, .slice AV T.nv cV, .slice AR T.nr cR], .slice AI q cI] w fun e w' => ∃ g, e = .returned (.slice (some ⟨g, 0, none⟩) 1 1) ∧ Blk w' g 4 #[.bool (l.any (pd T S))] ∧ w.heap.size ≤ g ∧ Below w.heap.size w w' := by
  have K0 := Blk.new w 26 #[.int .i64 T.st, .int .i64 T.sy, .slice AH T.n cH, .slice AV T.nv cV, .slice AR T.nr cR]
  have B0 := (Below.refl w.heap.size w).alloc (Nat.le_refl _) (.cells #[.int .i64 T.st, .int .i64 T.sy, .slice AH T.n cH, .slice AV T.nv cV, .slice AR T.nr cR] 26)
  have CF := Lib.hid (containsd_any S T w.heap.size AI cI l (w.alloc (.cells #[.int .i64 T.st, .int .i64 T.sy, .slice AH T.n cH, .slice AV T.nv cV, .slice AR T.nr cR] 26)) q (fun w' hb' x hx => dec1_any S AH cH AV cV AR cR T w.heap.size x w' (hM.below (B0.trans (hb'.mono B0.size)) hM.1) ((h.later B0).later hb') hb ht (by omega) hS (hl x hx).1 (hl x hx).2 (K0.below hb' K0.lt)) (hI.later B0) hq)
  clear hM h hb ht hS hI hq hl
  rw [h1] at K0 B0 CF ⊢
  clear h1
  generalize l.any (pd T S) = z at CF ⊢
  obtain ⟨st, ky, n, f, nv, v, nr, ri, ro⟩ := T
  simp only at *
  go_enter Tryz.func29, Tryz.ntmps29
  go_upto_region 1 with (fail)
  generalize w.alloc (.cells #[.int .i64 st, .int .i64 ky, .slice AH n cH, .slice AV nv cV, .slice AR 1 cR] 26) = w0 at *
  obtain ⟨t0, t1, t2, t3, t4, t5⟩ := K0.five
  have B0 := Lib.hid B0
  go_wp2_with (go_at_call 48; (with_reducible refine CF.out.mono ?_); rintro e w1 ⟨rfl, hb⟩; have B1 := Lib.hid (B0.out.trans (hb.mono B0.out.size)); clear hb)
  go_ret
  exact ⟨_, rfl, Blk.new w1 _ _, B1.out.size, B1.out.alloc B1.out.size _⟩
end Go.Proofs.YtcgkkppidkkjiaaGreatDoor
namespace Go.Proofs.YtcgkkppidkkjiaaGreatDoor
open Go.RowKit

/-- three positions in a row -/
def lnf (k : Nat) : P2 := ((k : Int) - 1, 0)
/-- the table of the examples: two equal rows, 1 0 0 to 1 and to 0 -/
def T0 : Tab := ⟨2, 0, 3, lnf, 0, fun _ => [], 2, fun _ => [1, 0, 0], fun k => if k = 0 then 1 else 0⟩
/-- its rows with the numbers of their parts -/
def T8 : Tab := { T0 with st := 8, ro := fun k => (k : Int) }
theorem hd_lnf : Hd lnf 3 := by decide +kernel
theorem rt0 : Rt T0 := (rt_iff _).1 (by decide +kernel)
theorem rt8 : Rt T8 := (rt_iff _).1 (by decide +kernel)
theorem bd0 : Bd T0 := ⟨by decide, by decide, by decide, fun k hk => absurd hk (Nat.not_lt_zero k), fun k hk => by show (3 : Nat) < _; decide⟩
theorem bd8 : Bd T8 := ⟨by decide, by decide, by decide, fun k hk => absurd hk (Nat.not_lt_zero k), fun k hk => by show (3 : Nat) < _; decide⟩
theorem nx0_a : nx T0 [1, 0, 0] = 1 := by decide +kernel
theorem nx0_b : nx T0 [0, 1, 0] = 1 := by decide +kernel
theorem nx0_c : nx T0 [0, 0, 0] = 0 := by decide +kernel
theorem vr0_a : vr T0 0 [1, 0, 0] = 1 := by decide +kernel
theorem vr0_b : vr T0 0 [0, 1, 0] = 0 := by decide +kernel
/-- in which part the first row that decides lies -/
def nx8l : List Int := (List.range 8).map fun k => nx T8 [((k / 4 % 2 : Nat) : Int), ((k / 2 % 2 : Nat) : Int), ((k % 2 : Nat) : Int)]
theorem nx8_all : nx8l = [0, 0, 1, 1, 0, 0, 1, 1] := by decide +kernel
instance elDec (st : Int) (lv : Nat → Int) (i : Nat) (l k : Int) : Decidable (El st lv i l k) := by unfold El; infer_instance
instance ndDec (st : Int) (n : Nat) (lv : Nat → Int) (i : Nat) (l : Int) (e : List Int) : Decidable (Nd st n lv i l e) := by unfold Nd; infer_instance
theorem rtt_read : Rtt (TRd lnf) := ⟨by decide, by decide, hd_lnf, by decide, by decide, by decide +kernel, by decide⟩
theorem rtt_con : Rtt (TCn 2 3 lnf 0) := ⟨by decide, by decide, hd_lnf, by decide, by decide, by decide +kernel, by decide⟩
/-- the neighbourhood of the examples came back -/
def LineOut (w : World) (e : Ending) (w' : World) : Prop := ∃ A c, e = .returned (.slice A 3 c) ∧ QReads w' w'.heap.size A 3 lnf ∧ Below w.heap.size w w'
set_option maxRecDepth 100000 in
set_option maxHeartbeats 4000000 in
theorem line_any (w : World) : Calls Tryz.prog 11 #[] w (LineOut w) := by
  go_enter Tryz.func11, Tryz.ntmps11
  go_wp2
  go_ret
  have K := Blk.new w 58 #[.int .i64 (-1), .int .i64 0, .int .i64 0, .int .i64 0, .int .i64 1, .int .i64 0]
  exact ⟨_, _, rfl, fun _ => ⟨w.heap.size, 0, rfl, K.lt, fun k hk => by
    match k, hk with
    | 0, _ => exact ⟨(K.cell 0).trans rfl, (K.cell 1).trans rfl⟩
    | 1, _ => exact ⟨(K.cell 2).trans rfl, (K.cell 3).trans rfl⟩
    | 2, _ => exact ⟨(K.cell 4).trans rfl, (K.cell 5).trans rfl⟩⟩, (Below.refl _ _).alloc (Nat.le_refl _) _⟩
/-- Tree at the examples' table, and value at its tree -/
theorem tree0 (AH : Option Addr) (cH : Nat) (AR : Option Addr) (cR : Nat) (w : World) (hM : Mat w) (h : TR w AH none AR T0) :
    Calls Tryz.prog 6 #[.agg #[.int .i64 2, .int .i64 0, .slice AH 3 cH, .slice none 0 0, .slice AR 2 cR]] w fun e w' => ∃ (A1 : Option Addr) (c1 : Nat) (A2 : Option Addr) (n2 c2 : Nat), e = .returned (.tuple #[.agg #[.int .i64 2, .slice A1 3 c1, .slice A2 n2 c2], .int .i64 0]) ∧ Below w.heap.size w w' ∧
      ∀ (l : List Int) (A : Option Addr) (c : Nat) (w'' : World), Below w'.heap.size w' w'' → Reads w'' w''.heap.size A 3 (il l) → als 2 l = true → Calls Tryz.prog 9 #[.agg #[.int .i64 2, .slice A1 3 c1, .slice A2 n2 c2], .slice A 3 c] w'' fun e w3 => e = .returned (.int .i64 (nx T0 l)) ∧ Below w''.heap.size w'' w3 := by
  refine (tree_out 2 AH cH none 0 AR cR T0 w hM h bd0 rt0 rfl).mono fun e w' hto => ?_
  rcases hto with ⟨er, h1, h2, h3⟩ | ⟨AI', cI', AN', cN', out, h1, h2, h3, h4, h5, h6, h7⟩
  · exact absurd h2.2 (by decide)
  · refine ⟨AI', cI', AN', out.length, cN', h1, h7, fun l A c w'' hb hI ha => ?_⟩
    have HL := reads_len hI
    refine (val_out h2 (by omega) (by omega) hd_lnf h3 h4 h5 h6 3 A l w'' hb hI (by omega) c).mono fun e w3 h => ?_
    obtain ⟨rfl, hb3⟩ := h
    refine ⟨?_, hb3⟩
    have hn := nx_st rt0 HL ha
    rw [ev, if_pos (show l.length = T0.n from HL), if_pos (show als ((2 : Nat) : Int) l = true from ha)]
    show Ending.returned (.int .i64 (((nx T0 l).toNat : Nat) : Int)) = _
    rw [show (((nx T0 l).toNat : Nat) : Int) = nx T0 l by omega]
/-- Row at its first row, and value at its tree -/
theorem row0 (AH : Option Addr) (cH : Nat) (AR : Option Addr) (cR : Nat) (w : World) (hM : Mat w) (h : TR w AH none AR T0) (hR : 2 ≤ cR) :
    Calls Tryz.prog 8 #[.agg #[.int .i64 2, .int .i64 0, .slice AH 3 cH, .slice none 0 0, .slice AR 2 cR], .int .i64 0] w fun e w' => ∃ (A1 : Option Addr) (c1 : Nat) (A2 : Option Addr) (n2 c2 : Nat), e = .returned (.tuple #[.agg #[.int .i64 2, .slice A1 3 c1, .slice A2 n2 c2], .int .i64 0]) ∧ Below w.heap.size w w' ∧
      ∀ (l : List Int) (A : Option Addr) (c : Nat) (w'' : World), Below w'.heap.size w' w'' → Reads w'' w''.heap.size A 3 (il l) → als 2 l = true → Calls Tryz.prog 9 #[.agg #[.int .i64 2, .slice A1 3 c1, .slice A2 n2 c2], .slice A 3 c] w'' fun e w3 => e = .returned (.int .i64 ((vr T0 0 l : Nat) : Int)) ∧ Below w''.heap.size w'' w3 := by
  refine (row_out 2 AH cH none 0 AR cR T0 0 w hM h bd0 rt0 rfl (by decide) hR).mono fun e w' hto => ?_
  rcases hto with ⟨er, h1, h2, h3⟩ | ⟨AI', cI', AN', cN', out, h1, h2, h3, h4, h5, h6, h7⟩
  · exact absurd h2.2 (by decide)
  · refine ⟨AI', cI', AN', out.length, cN', h1, h7, fun l A c w'' hb hI ha => ?_⟩
    have HL := reads_len hI
    refine (val_out h2 (by omega) (by omega) hd_lnf h3 h4 h5 h6 3 A l w'' hb hI (by omega) c).mono fun e w3 h => ?_
    obtain ⟨rfl, hb3⟩ := h
    refine ⟨?_, hb3⟩
    rw [ev, if_pos (show l.length = T0.n from HL), if_pos (show als ((2 : Nat) : Int) l = true from ha)]
    rfl
theorem nx8_at : ∀ k, k < 8 → nx T8 (dg 2 3 k) = ((k / 2 % 2 : Nat) : Int) := by decide +kernel
theorem al8_at : ∀ k, k < 8 → als 8 (dg 2 3 k) = true := by decide +kernel
/-- in which part the first row that decides lies: Next at the table of the parts -/
theorem next8 (AH : Option Addr) (cH : Nat) (AR : Option Addr) (cR : Nat) (AI : Option Addr) (cI k : Nat) (w : World) (hM : Mat w) (h : TR w AH none AR T8) (hk : k < 8) (hI : Reads w w.heap.size AI 3 (il (dg 2 3 k))) (hc : 3 ≤ cI) :
    Calls Tryz.prog 20 #[.agg #[.int .i64 8, .int .i64 0, .slice AH 3 cH, .slice none 0 0, .slice AR 2 cR], .slice AI 3 cI] w fun e w' => e = .returned (.tuple #[.int .i64 ((k / 2 % 2 : Nat) : Int), .int .i64 0]) ∧ Below w.heap.size w w' := by
  have := next_ok AH cH none 0 AR cR T8 AI cI (dg 2 3 k) w hM h bd8 rt8 hI hc (al8_at k hk)
  rw [nx8_at k hk] at this
  exact this
/-- what the rows decide for the numbers of their parts -/
theorem pd_zero : ([0, 1, 4, 5] : List Int).any (pd (alone T0 0) 2) = true := by decide +kernel
theorem pd_one : ([2, 3, 6, 7] : List Int).any (pd (alone T0 1) 2) = false := by decide +kernel
end Go.Proofs.YtcgkkppidkkjiaaGreatDoor
