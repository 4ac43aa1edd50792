/- Tallies as values: what they are equal by, what a list of them reads as. -/
import Derived.Test.YtcgkkppidkkjiaaGreatDoorMaa
import Derived.Test.YtcgkkppidkkjiaaGreatDoorMab
import Derived.Test.YtcgkkppidkkjiaaGreatDoorMac
import Derived.Below
import Derived.BigQuiet
import Derived.Deep.AppendLies
import Derived.Deep.CutRange
import Derived.Deep.Draws
import Derived.Deep.QuietTactic
import Derived.DeepKeys
import Derived.IntWalk
import Derived.Laws.OwnMore
import Derived.Laws.Rows
import Derived.Lib.Hide
import Derived.LoopN
import Derived.OwnWalk
import Derived.Sort.Statements
import Derived.StillTail
import Derived.StillTailTactics
import Derived.Test.YtcgkkppidkkjiaaGreatDoorRows
import Derived.WalkKit
namespace Go.Proofs.YtcgkkppidkkjiaaGreatDoor
open Go.RowKit
/-- a tally's cells -/
def tg (x : List Int) : Array Value := #[.int .u8 (ig x 0), .int .u8 (ig x 1), .int .u8 (ig x 2), .int .u8 (ig x 3), .int .u8 (ig x 4), .int .u8 (ig x 5), .int .u8 (ig x 6), .int .u8 (ig x 7)]
def tcs (x : List Int) : List Value := [.int .u8 (ig x 0), .int .u8 (ig x 1), .int .u8 (ig x 2), .int .u8 (ig x 3), .int .u8 (ig x 4), .int .u8 (ig x 5), .int .u8 (ig x 6), .int .u8 (ig x 7)]
/-- a tally -/
def Tk (x : List Int) : Prop := x.length = 8 ∧ ∀ i, i < 8 → 0 ≤ ig x i ∧ ig x i < 256
theorem eightl {x : List Int} (h : x.length = 8) : ∃ a b c d e f g i, x = [a, b, c, d, e, f, g, i] := by
  match x, h with
  | [a, b, c, d, e, f, g, i], _ => exact ⟨a, b, c, d, e, f, g, i, rfl⟩
theorem tg_set (x : List Int) (s : Nat) (v : Int) (h : x.length = 8) (hs : s < 8) : (tg x).setIfInBounds s (.int .u8 v) = tg (x.set s v) := by
  obtain ⟨a, b, c, d, e, f, g, i, rfl⟩ := eightl h
  match s, hs with
  | 0, _ | 1, _ | 2, _ | 3, _ | 4, _ | 5, _ | 6, _ | 7, _ => rfl
theorem tg_at (x : List Int) (s : Nat) (hs : s < 8) : (tg x)[s]? = some (.int .u8 (ig x s)) := by
  match s, hs with
  | 0, _ | 1, _ | 2, _ | 3, _ | 4, _ | 5, _ | 6, _ | 7, _ => rfl
theorem tal_ext {x y : List Int} (hx : x.length = 8) (hy : y.length = 8) (h : tcs x = tcs y) : x = y := by
  obtain ⟨a, b, c, d, e, f, g, i, rfl⟩ := eightl hx
  obtain ⟨a', b', c', d', e', f', g', i', rfl⟩ := eightl hy
  simp [tcs, ig] at h
  simp [h]
theorem wf8 (n : Int) (h : 0 ≤ n ∧ n < 256) : (Lit.int .u8 n).wf = true := by
  have e1 : IntKind.u8.min = 0 := by decide
  have e2 : IntKind.u8.max = 255 := by decide
  simp only [Lit.wf, e1, e2, Bool.and_eq_true, decide_eq_true_eq]
  omega
def tl8 (x : List Int) : List Lit := [.int .u8 (ig x 0), .int .u8 (ig x 1), .int .u8 (ig x 2), .int .u8 (ig x 3), .int .u8 (ig x 4), .int .u8 (ig x 5), .int .u8 (ig x 6), .int .u8 (ig x 7)]
theorem key1 (n : Int) (h : 0 ≤ n ∧ n < 256) : Tryz.prog.keyLits 1 5 [.int .u8 n] = some [.int .u8 n] := by
  have hu : Tryz.prog.underlying 5 = some (.int .u8) := by kernel_rfl
  simp only [Program.keyLits, hu]
  rw [if_pos ⟨trivial, wf8 n h⟩]
theorem key8 (x : List Int) (hx : Tk x) : Tryz.prog.keyLits 2 149 (Value.agg (tg x)).cells.toList = some (tl8 x) := by
  have hu : Tryz.prog.underlying 149 = some (.array 8 5) := by kernel_rfl
  have hc : Tryz.prog.cellsOf 149 = 8 := by kernel_rfl
  have hc1 : Tryz.prog.cellsOf 5 = 1 := by kernel_rfl
  have k := fun i hi => key1 (ig x i) (hx.2 i hi)
  show Tryz.prog.keyLits (1 + 1) _ _ = _
  unfold Program.keyLits
  simp only [hu, hc, hc1]
  simp [Value.cells, tg, List.range, List.range.loop, k, tl8]
set_option maxRecDepth 100000 in
theorem teq (x y : List Int) (hx : Tk x) (hy : Tk y) (w : World) : (Op.equalIn 10000 149 (.agg (tg x)) (.agg (tg y))).run Tryz.prog w = .ok (decide (x = y)) w := by
  obtain ⟨r, hr, hi⟩ := run_equalIn_deep (P := Tryz.prog) 9998 2 149 (by kernel_rfl) w 2 2 (.agg (tg x)) (.agg (tg y)) (tl8 x) (tl8 y) (by kernel_rfl) (by kernel_rfl) (key8 x hx) (key8 y hy)
  simp only [Nat.reduceAdd] at hr
  rw [hr]
  congr 1
  rw [Bool.eq_iff_iff, hi, decide_eq_true_iff]
  constructor
  · intro h
    refine tal_ext hx.1 hy.1 ?_
    simp [tl8] at h
    simp [tcs, h]
  · intro h
    rw [h]

/-- the cells of a list of tallies -/
def tcl (l : List (List Int)) : List Value := l.flatMap tcs
theorem tcl_add (l : List (List Int)) (x : List Int) : tcl (l ++ [x]) = tcl l ++ tcs x := by simp [tcl, List.flatMap_append]
/-- tally number k -/
def tn8 (l : List (List Int)) (k : Nat) : List Int := l.getD k []
theorem tcl_at (l : List (List Int)) (k i : Nat) (hk : k < l.length) (hi : i < 8) : (tcl l)[k * 8 + i]? = (tcs (tn8 l k))[i]? := by
  induction l generalizing k with
  | nil => simp at hk
  | cons a l ih =>
    have e : tcl (a :: l) = tcs a ++ tcl l := by simp [tcl, List.flatMap_cons]
    have la : (tcs a).length = 8 := rfl
    rw [e]
    cases k with
    | zero => rw [List.getElem?_append_left (by omega)]; simp [tn8]
    | succ k =>
      rw [List.getElem?_append_right (by omega), la, show (k + 1) * 8 + i - 8 = k * 8 + i by omega, ih k (by simpa using hk)]
      simp [tn8]
/-- a list of tallies at the address A, below block B -/
def TReads (w : World) (B : Nat) (A : Option Addr) (l : List (List Int)) : Prop :=
  0 < l.length → ∃ g o, A = some ⟨g, o, none⟩ ∧ g < B ∧ ∀ k, k < l.length → ∀ i, i < 8 → w.cell? ⟨g, o + k * 8 + i, none⟩ = some (.int .u8 (ig (tn8 l k) i))
section
variable {w w' : World} {B B' : Nat} {A : Option Addr} {l : List (List Int)}
theorem TReads.below (h : TReads w B A l) (hb : Below B w w') : TReads w' B A l := fun hn => by
  obtain ⟨g, o, e, hg, hc⟩ := h hn
  exact ⟨g, o, e, hg, fun k hk i hi => (hb.cell (p := ⟨g, _, none⟩) hg).trans (hc k hk i hi)⟩
theorem TReads.more (h : TReads w B A l) (hB : B ≤ B') : TReads w B' A l := fun hn => by
  obtain ⟨g, o, e, hg, hc⟩ := h hn
  exact ⟨g, o, e, Nat.lt_of_lt_of_le hg hB, hc⟩
theorem TReads.later (h : TReads w w.heap.size A l) (hb : Below w.heap.size w w') : TReads w' w'.heap.size A l := (h.below hb).more hb.size
theorem TReads.eight (h : TReads w B A l) {k : Nat} (hk : k < l.length) : ∃ g o, A = some ⟨g, o, none⟩ ∧ g < B ∧ w.cell? ⟨g, o + k * 8, none⟩ = some (.int .u8 (ig (tn8 l k) 0)) ∧ w.cell? ⟨g, o + k * 8 + 1, none⟩ = some (.int .u8 (ig (tn8 l k) 1)) ∧ w.cell? ⟨g, o + k * 8 + 2, none⟩ = some (.int .u8 (ig (tn8 l k) 2)) ∧ w.cell? ⟨g, o + k * 8 + 3, none⟩ = some (.int .u8 (ig (tn8 l k) 3)) ∧ w.cell? ⟨g, o + k * 8 + 4, none⟩ = some (.int .u8 (ig (tn8 l k) 4)) ∧ w.cell? ⟨g, o + k * 8 + 5, none⟩ = some (.int .u8 (ig (tn8 l k) 5)) ∧ w.cell? ⟨g, o + k * 8 + 6, none⟩ = some (.int .u8 (ig (tn8 l k) 6)) ∧ w.cell? ⟨g, o + k * 8 + 7, none⟩ = some (.int .u8 (ig (tn8 l k) 7)) := by
  obtain ⟨g, o, e, hg, hc⟩ := h (by omega)
  exact ⟨g, o, e, hg, hc k hk 0 (by omega), hc k hk 1 (by omega), hc k hk 2 (by omega), hc k hk 3 (by omega), hc k hk 4 (by omega), hc k hk 5 (by omega), hc k hk 6 (by omega), hc k hk 7 (by omega)⟩
theorem TReads.of_own {base c : Nat} {e : TypeId} (h : w.ownsRow base e 8 (.slice A l.length c) l.length (tcl l)) : TReads w w.heap.size A l := fun hn => by
  obtain ⟨g, cap, hv, _, _⟩ := h.form hn
  injection hv with h1 h2 h3
  subst h1 h3
  refine ⟨g, 0, rfl, (h.lt g rfl).2, fun k hk i hi => ?_⟩
  rw [Nat.zero_add, h.cellAt (k * 8 + i) (by omega), tcl_at l k i hk hi]
  match i, hi with
  | 0, _ | 1, _ | 2, _ | 3, _ | 4, _ | 5, _ | 6, _ | 7, _ => rfl
end
theorem tn8_mem {l : List (List Int)} {k : Nat} (h : k < l.length) : tn8 l k ∈ l := by
  rw [tn8, List.getD_eq_getElem?_getD, List.getElem?_eq_getElem h]; exact List.getElem_mem h
theorem mem_tn8 {l : List (List Int)} {x : List Int} (h : x ∈ l) : ∃ j, j < l.length ∧ tn8 l j = x := by
  obtain ⟨j, hj, rfl⟩ := List.getElem_of_mem h
  exact ⟨j, hj, by rw [tn8, List.getD_eq_getElem?_getD, List.getElem?_eq_getElem hj]; rfl⟩
theorem own_below8 {w w' : World} {base : Nat} {e : TypeId} {v : Value} {n : Nat} {xs : List Value} (h : w.ownsRow base e 8 v n xs) (hb : Below w.heap.size w w') : w'.ownsRow base e 8 v n xs := by
  refine ⟨h.1, ?_⟩
  rcases h.2 with hn | ⟨g, cap, cur, rfl, hb', hg, rest⟩
  · exact .inl hn
  · refine .inr ⟨g, cap, cur, rfl, hb', ?_, rest⟩
    rw [hb.block g (Array.getElem?_eq_some_iff.1 hg).1]; exact hg
theorem Tryz.info_tally : (Tryz.prog.info? 149).map (fun i => (i.zero, i.size, i.bytes)) = some (some (.agg #[.int .u8 0, .int .u8 0, .int .u8 0, .int .u8 0, .int .u8 0, .int .u8 0, .int .u8 0, .int .u8 0]), 8, 8) := by kernel_rfl
end Go.Proofs.YtcgkkppidkkjiaaGreatDoor
namespace Go.Proofs.YtcgkkppidkkjiaaGreatDoor
open Go.RowKit
set_option maxRecDepth 100000 in
set_option maxHeartbeats 2000000 in
theorem tindex_any (A : Option Addr) (c : Nat) (l : List (List Int)) (x : List Int) (w : World) (h : TReads w w.heap.size A l) (hk : ∀ y, y ∈ l → Tk y) (hx : Tk x) (hn : l.length ≤ 4611686018427387904) :
    Calls Tryz.prog 131 #[.slice A l.length c, .agg (tg x)] w fun e w' => e = .returned (.int .i64 (fx (fun i => decide (tn8 l i = x)) l.length)) ∧ Below w.heap.size w w' := by
  have H := Lib.hid h
  have TE := Lib.hid (fun k (hk' : k < l.length) (w : World) => teq x (tn8 l k) hx (hk _ (tn8_mem hk')) w)
  have K0 := Lib.hid (Blk.new w 149 (tg x))
  have B0 := Lib.hid ((Below.refl w.heap.size w).alloc (Nat.le_refl _) (.cells (tg x) 149))
  have FS := Lib.hid (fun j (hj : j < l.length) (h : ∀ i, i < j → tn8 l i ≠ x) (e : tn8 l j = x) => show fx (fun i => decide (tn8 l i = x)) l.length = (j : Int) from fx_some hj (fun i hi => decide_eq_false (h i hi)) (decide_eq_true e))
  have FN := Lib.hid (fun (h : ∀ i, i < l.length → tn8 l i ≠ x) => show fx (fun i => decide (tn8 l i = x)) l.length = -1 from fx_none (fun i hi => decide_eq_false (h i hi)))
  generalize fx (fun i => decide (tn8 l i = x)) l.length = r at FS FN ⊢
  clear h hk hx
  unfold tg at *
  generalize ig x 0 = b0 at K0 B0 TE ⊢
  generalize ig x 1 = b1 at K0 B0 TE ⊢
  generalize ig x 2 = b2 at K0 B0 TE ⊢
  generalize ig x 3 = b3 at K0 B0 TE ⊢
  generalize ig x 4 = b4 at K0 B0 TE ⊢
  generalize ig x 5 = b5 at K0 B0 TE ⊢
  generalize ig x 6 = b6 at K0 B0 TE ⊢
  generalize ig x 7 = b7 at K0 B0 TE ⊢
  go_enter Tryz.func131, Tryz.ntmps131
  go_wp2_with fail
  generalize w.alloc (.cells #[.int .u8 b0, .int .u8 b1, .int .u8 b2, .int .u8 b3, .int .u8 b4, .int .u8 b5, .int .u8 b6, .int .u8 b7] 149) = w0 at K0 B0 ⊢
  go_wp2
  obtain ⟨n, hn'⟩ : ∃ n, n = l.length := ⟨_, rfl⟩
  rw [← hn'] at hn ⊢
  have HN' := Lib.hid hn'
  clear hn'
  go_loopw [8] (fun iv wr => ∃ j : Nat, j ≤ n ∧ iv = .int .i64 (j : Int) ∧ (∀ i, i < j → tn8 l i ≠ x) ∧ Below w0.heap.size w0 wr) (fun iv _ => n - (intOf iv).toNat)
  case atStart => exact ⟨0, Nat.zero_le _, rfl, fun i hi => absurd hi (by omega), Below.refl _ _⟩
  case round =>
    obtain ⟨j, hj, rfl, hno, hbel⟩ := hrel
    have HB := Lib.hid (B0.out.trans (hbel.mono B0.out.size))
    have HX := Lib.hid hbel
    have HN := Lib.hid hno
    obtain ⟨k0, k1, k2, k3, k4, k5, k6, k7, k8⟩ := (K0.out.below hbel K0.out.lt).eight
    clear hno hbel
    by_cases hjn : j < n
    · obtain ⟨g1, o1, rfl, hb1, c0, c1, c2, c3, c4, c5, c6, c7⟩ := (H.out.below HB.out).eight (k := j) (by rw [← HN'.out]; exact hjn)
      have EQ := TE.out j (by rw [← HN'.out]; exact hjn)
      have FS1 := Lib.hid (FS.out j (by rw [← HN'.out]; exact hjn) HN.out)
      have HS := Lib.hid (show tn8 l j ≠ x → ∀ i, i < j + 1 → tn8 l i ≠ x from fun h i hi => by
        by_cases e : i < j
        · exact HN.out i e
        · obtain rfl : i = j := by omega
          exact h)
      have QE : decide (x = tn8 l j) = true ↔ tn8 l j = x := by rw [decide_eq_true_iff]; exact eq_comm
      generalize decide (x = tn8 l j) = q at EQ QE
      generalize ig (tn8 l j) 0 = a0 at EQ c0
      generalize ig (tn8 l j) 1 = a1 at EQ c1
      generalize ig (tn8 l j) 2 = a2 at EQ c2
      generalize ig (tn8 l j) 3 = a3 at EQ c3
      generalize ig (tn8 l j) 4 = a4 at EQ c4
      generalize ig (tn8 l j) 5 = a5 at EQ c5
      generalize ig (tn8 l j) 6 = a6 at EQ c6
      generalize ig (tn8 l j) 7 = a7 at EQ c7
      cases q with
      | true =>
        have HF := Lib.hid (FS1.out (QE.1 rfl))
        clear QE
        go_wp2_with fail
        go_quiet (fail)
        go_wp2
        go_ret
        exact ⟨ret_int HF.out.symm, below_drewN HB.out _⟩
      | false =>
        have HT := Lib.hid (HS.out fun e => by have := QE.2 e; cases this)
        clear QE
        go_wp2_with fail
        go_quiet (fail)
        go_wp2
        go_roundw
        case rel => exact ⟨j + 1, by omega, by go_num, HT.out, below_drewN HX.out _⟩
        case measure => simp [intOf]; omega
    · obtain rfl : j = n := by omega
      have HF := Lib.hid (FN.out fun i hi => HN.out i (by rw [← HN'.out] at hi; exact hi))
      go_wp2
      go_ret
      exact ⟨ret_int HF.out.symm, HB.out⟩
theorem tcontains_any (A : Option Addr) (c : Nat) (l : List (List Int)) (x : List Int) (w : World) (h : TReads w w.heap.size A l) (hk : ∀ y, y ∈ l → Tk y) (hx : Tk x) (hn : l.length ≤ 4611686018427387904) :
    Calls Tryz.prog 113 #[.slice A l.length c, .agg (tg x)] w fun e w' => e = .returned (.bool (decide (x ∈ l))) ∧ Below w.heap.size w w' := by
  have IX := Lib.hid (fun w1 (hb : Below w.heap.size w w1) => tindex_any A c l x w1 (h.later hb) hk hx hn)
  have K0 := Lib.hid (Blk.new w 149 (tg x))
  have B0 := Lib.hid ((Below.refl w.heap.size w).alloc (Nat.le_refl _) (.cells (tg x) 149))
  have Q : (x ∈ l ∧ ∃ j : Nat, fx (fun i => decide (tn8 l i = x)) l.length = (j : Int)) ∨ (x ∉ l ∧ fx (fun i => decide (tn8 l i = x)) l.length = -1) := by
    rcases fx_cases (fun i => decide (tn8 l i = x)) l.length with ⟨j, hj, e, h1, _⟩ | ⟨e, h1⟩
    · exact .inl ⟨by rw [← of_decide_eq_true h1]; exact tn8_mem hj, j, e⟩
    · exact .inr ⟨fun hm => by
        obtain ⟨j, hj, e⟩ := mem_tn8 hm
        exact of_decide_eq_false (h1 j hj) e, e⟩
  generalize fx (fun i => decide (tn8 l i = x)) l.length = r at IX Q
  have QR : decide (x ∈ l) = decide (0 ≤ r) := by
    rcases Q with ⟨h1, j, rfl⟩ | ⟨h1, rfl⟩
    · rw [decide_eq_true h1, decide_eq_true (by omega)]
    · rw [decide_eq_false h1]; rfl
  rw [QR]
  clear h hk hx Q QR
  unfold tg at *
  generalize ig x 0 = b0 at K0 B0 IX ⊢
  generalize ig x 1 = b1 at K0 B0 IX ⊢
  generalize ig x 2 = b2 at K0 B0 IX ⊢
  generalize ig x 3 = b3 at K0 B0 IX ⊢
  generalize ig x 4 = b4 at K0 B0 IX ⊢
  generalize ig x 5 = b5 at K0 B0 IX ⊢
  generalize ig x 6 = b6 at K0 B0 IX ⊢
  generalize ig x 7 = b7 at K0 B0 IX ⊢
  go_enter Tryz.func113, Tryz.ntmps113
  go_wp2_with fail
  generalize w.alloc (.cells #[.int .u8 b0, .int .u8 b1, .int .u8 b2, .int .u8 b3, .int .u8 b4, .int .u8 b5, .int .u8 b6, .int .u8 b7] 149) = w0 at K0 B0 ⊢
  obtain ⟨k0, k1, k2, k3, k4, k5, k6, k7, k8⟩ := K0.out.eight
  go_wp2_with (go_at_call 131; (with_reducible refine (IX.out _ B0.out).mono ?_); rintro e w1 ⟨rfl, hb⟩; have B1 := Lib.hid (B0.out.trans (hb.mono B0.out.size)); clear hb)
  go_ret
  exact ⟨rfl, B1.out⟩
/-- how often a number stands in a list -/
def cnt (l : List Int) (k : Int) : Nat → Int
  | 0 => 0
  | n + 1 => cnt l k n + if ig l n = k then 1 else 0
theorem cnt_bd (l : List Int) (k : Int) (n : Nat) : 0 ≤ cnt l k n ∧ cnt l k n ≤ n := by
  induction n with
  | zero => exact ⟨Int.le_refl _, Int.le_refl _⟩
  | succ n ih => rw [cnt]; split <;> omega
set_option maxRecDepth 100000 in
theorem count_any (A : Option Addr) (n c B : Nat) (l : List Int) (k : Int) (w : World) (h : Reads w B A n (il l)) (hn : n ≤ 200) :
    Calls Tryz.prog 99 #[.slice A n c, .int .i64 k] w fun e w' => e = .returned (.int .u8 (cnt l k n)) ∧ w = w' := by
  have HL := Lib.hid (reads_len h)
  have H := Lib.hid h
  clear h
  go_enter Tryz.func99, Tryz.ntmps99
  go_wp2
  go_loop [5, 10] (fun rv iv => ∃ (j : Nat) (r : Int), j ≤ n ∧ iv = .int .i64 (j : Int) ∧ rv = .int .u8 r ∧ r = cnt l k j ∧ 0 ≤ r ∧ r ≤ j) (fun _ iv => n - (intOf iv).toNat)
  case atStart => exact ⟨0, 0, Nat.zero_le _, rfl, rfl, rfl, by decide, by decide⟩
  case round =>
    obtain ⟨j, r, hj, rfl, rfl, hr, h0, h1⟩ := hrel
    have HR := Lib.hid hr
    clear hr
    by_cases hlt : j < n
    · obtain ⟨ad, rfl, hb, hc⟩ := il_at H.out hlt
      have CS := Lib.hid (show cnt l k (j + 1) = cnt l k j + if ig l j = k then 1 else 0 from rfl)
      generalize ig l j = x at hc CS
      by_cases hxk : x = k
      · have CT := Lib.hid (show r + 1 = cnt l k (j + 1) by rw [CS.out, if_pos hxk, HR.out])
        have ht : (x == k) = true := by rw [beq_iff_eq]; exact hxk
        clear hxk
        go_wp2
        go_round
        case rel => exact ⟨j + 1, r + 1, by omega, by go_num, by go_num, CT.out, by omega, by omega⟩
        case measure => simp [intOf]; omega
      · have CT := Lib.hid (show r = cnt l k (j + 1) by rw [CS.out, if_neg hxk, HR.out, Int.add_zero])
        have ht : (x == k) = false := by rw [beq_eq_false_iff_ne]; exact hxk
        clear hxk
        go_wp2
        go_round
        case rel => exact ⟨j + 1, r, by omega, by go_num, rfl, CT.out, by omega, by omega⟩
        case measure => simp [intOf]; omega
    · obtain rfl : j = n := by omega
      go_wp2
      go_ret
      exact ⟨ret_int HR.out, rfl⟩
end Go.Proofs.YtcgkkppidkkjiaaGreatDoor
namespace Go.Proofs.YtcgkkppidkkjiaaGreatDoor
open Go.RowKit
/-- one tally, one state: what is left is added, if it is new -/
def wo1 (c : Int) (r : List (List Int)) (x : List Int) (s : Nat) : List (List Int) :=
  if ig x s < c then r else if x.set s (ig x s - c) ∈ r then r else r ++ [x.set s (ig x s - c)]
/-- one tally, the first i states -/
def wi (c : Int) (x : List Int) (ss : List Int) (r : List (List Int)) : Nat → List (List Int)
  | 0 => r
  | i + 1 => wo1 c (wi c x ss r i) x (ig ss i).toNat
/-- the first j tallies, all states -/
def wo (c : Int) (l : List (List Int)) (ss : List Int) : Nat → List (List Int)
  | 0 => []
  | j + 1 => wi c (tn8 l j) ss (wo c l ss j) ss.length
theorem ig_set {x : List Int} {s i : Nat} {v : Int} (hs : s < x.length) : ig (x.set s v) i = if i = s then v else ig x i := by
  unfold ig
  simp only [List.getD_eq_getElem?_getD, List.getElem?_set]
  by_cases h : s = i
  · subst h; simp [hs]
  · rw [if_neg h, if_neg (fun e => h e.symm)]
theorem Tk.set {x : List Int} (h : Tk x) {s : Nat} (hs : s < 8) {v : Int} (h0 : 0 ≤ v) (h1 : v < 256) : Tk (x.set s v) := by
  refine ⟨by rw [List.length_set]; exact h.1, fun i hi => ?_⟩
  rw [ig_set (by rw [h.1]; exact hs)]
  split
  · exact ⟨h0, h1⟩
  · exact h.2 i hi
theorem wo1_tk {c : Int} {r : List (List Int)} {x : List Int} {s : Nat} (hr : ∀ y, y ∈ r → Tk y) (hx : Tk x) (hs : s < 8) (h0 : 0 ≤ c) : ∀ y, y ∈ wo1 c r x s → Tk y := by
  intro y hy
  unfold wo1 at hy
  split at hy
  · exact hr y hy
  · split at hy
    · exact hr y hy
    · rcases List.mem_append.1 hy with h | h
      · exact hr y h
      · rw [List.mem_singleton] at h
        rw [h]
        have := hx.2 s hs
        exact hx.set hs (by omega) (by omega)
theorem wo1_len (c : Int) (r : List (List Int)) (x : List Int) (s : Nat) : (wo1 c r x s).length ≤ r.length + 1 := by
  unfold wo1
  split
  · omega
  · split
    · omega
    · simp
theorem wi_tk {c : Int} {r : List (List Int)} {x : List Int} {ss : List Int} (hr : ∀ y, y ∈ r → Tk y) (hx : Tk x) (h0 : 0 ≤ c) (i : Nat) (hs : ∀ k, k < i → (ig ss k).toNat < 8) : ∀ y, y ∈ wi c x ss r i → Tk y := by
  induction i with
  | zero => exact hr
  | succ i ih => exact wo1_tk (ih fun k hk => hs k (by omega)) hx (hs i (by omega)) h0
theorem wi_len (c : Int) (r : List (List Int)) (x ss : List Int) (i : Nat) : (wi c x ss r i).length ≤ r.length + i := by
  induction i with
  | zero => exact Nat.le_refl _
  | succ i ih => have := wo1_len c (wi c x ss r i) x (ig ss i).toNat; rw [wi]; omega
theorem wo_tk {c : Int} {l : List (List Int)} {ss : List Int} (hl : ∀ y, y ∈ l → Tk y) (h0 : 0 ≤ c) (hs : ∀ k, k < ss.length → (ig ss k).toNat < 8) (j : Nat) (hj : j ≤ l.length) : ∀ y, y ∈ wo c l ss j → Tk y := by
  induction j with
  | zero => intro y hy; cases hy
  | succ j ih => exact wi_tk (ih (by omega)) (hl _ (tn8_mem (by omega))) h0 _ hs
theorem wo_len (c : Int) (l : List (List Int)) (ss : List Int) (j : Nat) : (wo c l ss j).length ≤ j * ss.length := by
  induction j with
  | zero => simp [wo]
  | succ j ih => have := wi_len c (wo c l ss j) (tn8 l j) ss ss.length; rw [wo, Nat.succ_mul]; omega
/-- what the call owns stays owned behind a store elsewhere -/
theorem own_set8 {w : World} {base : Nat} {e : TypeId} {v : Value} {n : Nat} {xs : List Value} {p : Addr} (h : w.ownsRow base e 8 v n xs) (hp : v.ownBlock ≠ some p.block) (u : Value) : (w.setCell p u).ownsRow base e 8 v n xs := by
  refine ⟨h.1, ?_⟩
  rcases h.2 with hn | ⟨g, cap, cur, rfl, hb', hg, rest⟩
  · exact .inl hn
  · refine .inr ⟨g, cap, cur, rfl, hb', ?_, rest⟩
    have hne : g ≠ p.block := fun e => hp (by rw [e]; rfl)
    rw [Below.heap_setCell w p u g hne]; exact hg
theorem own_lt8 {w : World} {base : Nat} {e : TypeId} {v : Value} {n : Nat} {xs : List Value} (h : w.ownsRow base e 8 v n xs) {b : Nat} (hb : w.heap.size ≤ b) : v.ownBlock ≠ some b := by
  rcases h.2 with ⟨rfl, _⟩ | ⟨g, cap, cur, rfl, hb', hg, rest⟩
  · simp [Value.ownBlock]
  · have := (Array.getElem?_eq_some_iff.1 hg).1
    simp only [Value.ownBlock, ne_eq, Option.some.injEq]
    omega
/-- append of one tally onto a row of the call's own; another block stays as it was -/
theorem wpList_append8b {P : Program} {w : World} {ops : Array Oper} {rest : List Oper} {o : Oper} {a : Act} {Q : Exit → Act → World → Prop} (hgd : o.guard = none) (s x : Operand) (t : TypeId)
    (ho : o.op = .call { callee := .builtin .append, args := #[s, x], argTypes := #[t, t] })
    (base : Nat) (e : TypeId) (i : TypeInfo) (z : Value) (bytes : Nat) (ht : P.underlying t = some (.slice e)) (hi : P.info? e = some i) (hz : i.zero = some z)
    (hsize : i.size = 8) (hby : i.bytes = bytes) (hzs : z.cells.size = 8)
    (A : Option Addr) (n c : Nat) (xs : List Value) (hs : a.eval s = .slice A n c) (hown : w.ownsRow base e 8 (.slice A n c) n xs) (a0 a1 a2 a3 a4 a5 a6 a7 : Int)
    (hx : a.eval x = .slice (some ⟨w.heap.size, 0, none⟩) 1 1) (h63 : n + 1 ≤ maxLen) (hbytes : (n + 1) * bytes ≤ 140737488355328) (hbase : base ≤ w.heap.size)
    (b : Nat) (T : TypeId) (cs : Array Value) (hB : Blk w b T cs) (hAP : (Value.slice A n c).ownBlock ≠ some b)
    (h : ∀ g' c' w', w'.ownsRow base e 8 (.slice (some ⟨g', 0, none⟩) (n + 1) c') (n + 1) (xs ++ [.int .u8 a0, .int .u8 a1, .int .u8 a2, .int .u8 a3, .int .u8 a4, .int .u8 a5, .int .u8 a6, .int .u8 a7]) → Below base w w' → Blk w' b T cs → (Value.slice (some ⟨g', 0, none⟩) (n + 1) c').ownBlock ≠ some b → wpList P ops Q rest (a.put o.dst (.slice (some ⟨g', 0, none⟩) (n + 1) c')) w') :
    wpList P ops Q (o :: rest) a (w.alloc (.cells #[.int .u8 a0, .int .u8 a1, .int .u8 a2, .int .u8 a3, .int .u8 a4, .int .u8 a5, .int .u8 a6, .int .u8 a7] e)) := by
  refine wpList_append_lies _ hgd s x t ho base e i z 8 bytes ht hi hz hsize hby hzs (by decide) _ n xs hs (hown.alloc _) ⟨w.heap.size, 0, none⟩ 1 1 [.int .u8 a0, .int .u8 a1, .int .u8 a2, .int .u8 a3, .int .u8 a4, .int .u8 a5, .int .u8 a6, .int .u8 a7] hx rfl ?_ ?_ (by decide) h63 hbytes (by simp; omega) (w.heap.size + 1) (by simp) ?_
  · intro j y hj
    match j, hj with
    | 0, hj | 1, hj | 2, hj | 3, hj | 4, hj | 5, hj | 6, hj | 7, hj => simp at hj; subst hj; simp [Addr.add]
  · intro y hy; simp at hy; rcases hy with rfl | rfl | rfl | rfl | rfl | rfl | rfl | rfl <;> rfl
  · intro g' c' w' hown' hg hl hlt
    have hbl := hB.lt
    refine h g' c' w' hown' (Below.grown ((Below.refl base w).alloc hbase _) hg (by simp; omega) ?_) ?_ ?_
    · intro k hk
      exact (hown.lt k hk).1
    · exact (hg.block b (by simp; omega) (fun e => hAP e.symm)).trans (hB.alloc _)
    · simp only [Value.ownBlock, ne_eq, Option.some.injEq]
      intro e
      subst e
      rcases hl with hl | hl
      · exact hAP hl
      · omega
/-- a list of tallies came back -/
def TalOut (L : List (List Int)) (w : World) (e : Ending) (w' : World) : Prop := ∃ A' c', e = .returned (.slice A' L.length c') ∧ TReads w' w'.heap.size A' L ∧ Below w.heap.size w w'

set_option maxRecDepth 100000 in
set_option maxHeartbeats 4000000 in
theorem without_any (A : Option Addr) (cA : Nat) (l : List (List Int)) (AS : Option Addr) (m cS : Nat) (ss : List Int) (c : Int) (w : World) (h : TReads w w.heap.size A l) (hk : ∀ y, y ∈ l → Tk y)
    (hS : Reads w w.heap.size AS m (il ss)) (hs : ∀ k, k < ss.length → 0 ≤ ig ss k ∧ ig ss k < 8) (h0 : 0 ≤ c) (h1 : c < 256) (hl : l.length ≤ 1000000000) (hm : l.length * ss.length ≤ 1000000000) (hm2 : m ≤ 1000) :
    Calls Tryz.prog 97 #[.slice A l.length cA, .slice AS m cS, .int .u8 c] w fun e w' => TalOut (wo c l ss l.length) w e w' := by
  obtain ⟨i0, hi, hz0, hz1, hz2⟩ := info_parts Tryz.info_tally
  have HS := Lib.hid hS
  have H := Lib.hid h
  have HL := Lib.hid (reads_len hS)
  have HK := Lib.hid hk
  have HSS := Lib.hid hs
  have HM := Lib.hid hm
  obtain ⟨n, hn'⟩ : ∃ n, n = l.length := ⟨_, rfl⟩
  rw [← hn'] at hl ⊢
  have HN := Lib.hid hn'
  clear h hk hS hs hm hn'
  go_enter Tryz.func97, Tryz.ntmps97
  go_wp2
  go_loopw [7, 15] (fun lv jv wr => ∃ (j : Nat) (r : List (List Int)) (A' : Option Addr) (c' : Nat), j ≤ n ∧ jv = .int .i64 (j : Int) ∧ r = wo c l ss j ∧ lv = .slice A' r.length c' ∧ wr.ownsRow w.heap.size 149 8 (.slice A' r.length c') r.length (tcl r) ∧ Below w.heap.size w wr) (fun _ jv _ => n - (intOf jv).toNat)
  case atStart => exact ⟨0, [], none, 0, Nat.zero_le _, rfl, rfl, rfl, World.ownsRow_nil _ _ _ _, Below.refl _ _⟩
  case round =>
    obtain ⟨j, r, A', c', hj, rfl, hr, rfl, hown, hbel⟩ := hrel
    have HB := Lib.hid hbel
    have HW := Lib.hid hown
    have HR := Lib.hid hr
    have hsz := hbel.size
    clear hown hr hbel
    by_cases hjn : j < n
    · have hjl : j < l.length := by rw [← HN.out]; exact hjn
      obtain ⟨g1, o1, rfl, hb1, c0, c1, c2, c3, c4, c5, c6, c7⟩ := (H.out.below HB.out).eight hjl
      have TX := Lib.hid (HK.out _ (tn8_mem hjl))
      have RS := Lib.hid (show wi c (tn8 l j) ss r ss.length = wo c l ss (j + 1) by rw [HR.out]; rfl)
      obtain ⟨x, hx⟩ : ∃ x, x = tn8 l j := ⟨_, rfl⟩
      rw [← hx] at c0 c1 c2 c3 c4 c5 c6 c7 TX RS
      clear hx
      have RT := Lib.hid (show ∀ y, y ∈ r → Tk y by rw [HR.out]; exact wo_tk HK.out h0 (fun k hk => by have := HSS.out k hk; omega) j (by omega))
      have RL := Lib.hid (show r.length ≤ j * ss.length by rw [HR.out]; exact wo_len c l ss j)
      have K1 := Lib.hid (Blk.new wr 149 (tg x))
      have B1 := Lib.hid ((Below.refl wr.heap.size wr).alloc (Nat.le_refl _) (.cells (tg x) 149))
      have XG := Lib.hid (show #[Value.int .u8 (ig x 0), .int .u8 (ig x 1), .int .u8 (ig x 2), .int .u8 (ig x 3), .int .u8 (ig x 4), .int .u8 (ig x 5), .int .u8 (ig x 6), .int .u8 (ig x 7)] = tg x from rfl)
      go_upto_region 5 with (fail)
      rw [XG.out]
      generalize wr.alloc (.cells (tg x) 149) = w1 at K1 B1 ⊢
      obtain ⟨b, hb⟩ : ∃ b, b = wr.heap.size := ⟨_, rfl⟩
      have HBB := Lib.hid hb
      rw [← hb] at K1 ⊢
      clear hb
      go_wp2_with fail
      obtain ⟨w0, rfl⟩ : ∃ w0, w0 = wr := ⟨_, rfl⟩
      have B2 := Lib.hid (HB.out.trans (B1.out.mono hsz))
      have W1 := Lib.hid (own_below8 HW.out B1.out)
      have A1 := Lib.hid (own_lt8 (b := b) HW.out (by rw [HBB.out]; exact Nat.le_refl _))
      have hwb : w.heap.size ≤ b := by rw [HBB.out]; exact hsz
      clear c0 c1 c2 c3 c4 c5 c6 c7
      go_loopw [7, 21] (fun lv iv wr => ∃ (i : Nat) (r2 : List (List Int)) (A2 : Option Addr) (c2 : Nat), i ≤ m ∧ iv = .int .i64 (i : Int) ∧ r2 = wi c x ss r i ∧ lv = .slice A2 r2.length c2 ∧ (wr.ownsRow w.heap.size 149 8 (.slice A2 r2.length c2) r2.length (tcl r2) ∧ Blk wr b 149 (tg x) ∧ (Value.slice A2 r2.length c2).ownBlock ≠ some b) ∧ Below w.heap.size w wr) (fun _ iv _ => m - (intOf iv).toNat)
      case atStart => exact ⟨0, r, A', c', Nat.zero_le _, rfl, rfl, rfl, ⟨W1.out, K1.out, A1.out⟩, B2.out⟩
      case round =>
        obtain ⟨i, r2, A2, c2, hi', rfl, hr2, rfl, ⟨hown2, hk2, hap⟩, hbel2⟩ := hrel
        have HB2 := Lib.hid hbel2
        have hsz2 := hbel2.size
        have HW2 := Lib.hid hown2
        have HR2 := Lib.hid hr2
        have K2 := Lib.hid hk2
        have AP2 := Lib.hid hap
        have RT2 := Lib.hid (show ∀ y, y ∈ r2 → Tk y by rw [HR2.out]; exact wi_tk RT.out TX.out h0 i (fun k hk => by have := HSS.out k (by rw [HL.out]; omega); omega))
        have RL2 := Lib.hid (show r2.length ≤ r.length + i by rw [HR2.out]; exact wi_len c r x ss i)
        have hr2b : r2.length ≤ 1000001000 := by
          have a1 := RL2.out
          have a2 := RL.out
          have a3 := HM.out
          have a4 : j * ss.length ≤ l.length * ss.length := Nat.mul_le_mul_right _ (by omega)
          omega
        clear hown2 hk2 hap hbel2 hr2 W1 K1 A1 B2
        by_cases him : i < m
        · obtain ⟨ad, rfl, hbd, hc⟩ := il_at (HS.out.below HB2.out) him
          have hs8 := HSS.out i (by rw [HL.out]; exact him)
          have ST := Lib.hid (show wi c x ss r (i + 1) = wo1 c r2 x (ig ss i).toNat by rw [HR2.out]; rfl)
          obtain ⟨s, hse⟩ : ∃ s : Nat, ig ss i = (s : Int) := ⟨(ig ss i).toNat, by omega⟩
          rw [hse, show ((s : Int)).toNat = s from rfl] at ST
          rw [hse] at hc hs8
          have hs : s < 8 := by omega
          clear hse hs8
          have hcs : wr.cell? ⟨b, s, none⟩ = some (.int .u8 (ig x s)) := by rw [K2.out.cell, tg_at x s hs]
          have hy := TX.out.2 s hs
          have STN := Lib.hid (fun (h : ig x s < c) => show r2 = wi c x ss r (i + 1) by rw [ST.out, wo1, if_pos h])
          have STM := Lib.hid (fun (h : ¬ ig x s < c) (h2 : x.set s (ig x s - c) ∈ r2) => show r2 = wi c x ss r (i + 1) by rw [ST.out, wo1, if_neg h, if_pos h2])
          have STA := Lib.hid (fun (h : ¬ ig x s < c) (h2 : x.set s (ig x s - c) ∉ r2) => show r2 ++ [x.set s (ig x s - c)] = wi c x ss r (i + 1) by rw [ST.out, wo1, if_neg h, if_neg h2])
          clear ST
          have TA := Lib.hid (tg_at x s hs)
          have ZT := Lib.hid (fun (v : Int) (h1 : 0 ≤ v) (h2 : v < 256) => TX.out.set hs h1 h2)
          have ZS := Lib.hid (fun (v : Int) => tg_set x s v TX.out.1 hs)
          generalize ig x s = y at hcs hy STN STM STA TA
          by_cases hyc : y < c
          · have HT := Lib.hid (STN.out hyc)
            go_wp2
            go_roundw
            case rel => exact ⟨i + 1, r2, A2, c2, by omega, by go_num, HT.out, rfl, ⟨HW2.out, K2.out, AP2.out⟩, HB2.out⟩
            case measure => simp [intOf]; omega
          · have hcy : c ≤ y := by omega
            obtain ⟨k0, k1, k2, k3, k4, k5, k6, k7, k8⟩ := K2.out.eight
            have K3 := Lib.hid (K2.out.alloc (.cells (tg x) 149))
            have N3 := Lib.hid (Blk.new wr 149 (tg x))
            have W3 := Lib.hid (HW2.out.alloc (.cells (tg x) 149))
            have B3 := Lib.hid (HB2.out.alloc hsz2 (.cells (tg x) 149))
            have AP3 := Lib.hid (own_lt8 HW2.out (Nat.le_refl _))
            have hbw : b < wr.heap.size := k8
            go_upto_region 10 with (fail)
            rw [XG.out]
            clear k0 k1 k2 k3 k4 k5 k6 k7 k8 hcs
            generalize wr.alloc (.cells (tg x) 149) = w3 at K3 N3 W3 B3 ⊢
            obtain ⟨d, hd⟩ : ∃ d, d = wr.heap.size := ⟨_, rfl⟩
            rw [← hd] at N3 AP3 hbw hsz2 ⊢
            clear hd
            have cd : w3.cell? ⟨d, s, none⟩ = some (.int .u8 y) := by rw [N3.out.cell, TA.out]
            have fd := N3.out.frozen s
            have hdb : b ≠ d := by omega
            have hwd : w.heap.size ≤ d := by omega
            have hzy := Lib.hid (show 0 ≤ y - c ∧ y - c < 256 by omega)
            obtain ⟨z, hz⟩ : ∃ z, z = x.set s (y - c) := ⟨_, rfl⟩
            have N4 := Lib.hid (show Blk (w3.setCell ⟨d, s, none⟩ (.int .u8 (y - c))) d 149 (tg z) by rw [hz, ← ZS.out]; exact N3.out.set_ s _)
            have K4 := Lib.hid (K3.out.far (p := ⟨d, s, none⟩) hdb (.int .u8 (y - c)))
            have W4 := Lib.hid (own_set8 (p := ⟨d, s, none⟩) W3.out AP3.out (.int .u8 (y - c)))
            have B4 := Lib.hid (B3.out.setCell (p := ⟨d, s, none⟩) hwd (.int .u8 (y - c)))
            have ZK := Lib.hid (show Tk z by rw [hz]; exact ZT.out _ hzy.out.1 hzy.out.2)
            rw [← hz] at STM STA
            clear hz
            go_upto_region 11 with (fail)
            generalize w3.setCell ⟨d, s, none⟩ (.int .u8 (y - c)) = w4 at N4 K4 W4 B4 ⊢
            clear cd fd
            have TC := tcontains_any A2 c2 r2 z w4 (TReads.of_own W4.out) RT2.out ZK.out (by omega)
            obtain ⟨k0, k1, k2, k3, k4, k5, k6, k7, k8⟩ := N4.out.eight
            have ZC := Lib.hid (tcl_add r2 z)
            unfold tg at TC
            unfold tcs at ZC
            by_cases hq : z ∈ r2
            · have HT := Lib.hid (STM.out hyc hq)
              rw [decide_eq_true hq] at TC
              have TC := Lib.hid TC
              clear hq
              go_wp2_with (go_at_call 113; (with_reducible refine TC.out.mono ?_); rintro e w5 ⟨rfl, hb⟩; have B5 := Lib.hid (B4.out.trans (hb.mono B4.out.size)); have W5 := own_below8 W4.out hb; have K5 := K4.out.below hb K4.out.lt; clear hb)
              go_roundw
              case rel => exact ⟨i + 1, r2, A2, c2, by omega, by go_num, HT.out, rfl, ⟨W5, K5, AP2.out⟩, B5.out⟩
              case measure => simp [intOf]; omega
            · have HT := Lib.hid (STA.out hyc hq)
              rw [decide_eq_false hq] at TC
              have TC := Lib.hid TC
              clear hq
              go_wp2_with (first
                | (go_at_call 113; (with_reducible refine TC.out.mono ?_); rintro e w5 ⟨rfl, hb⟩; have B5 := Lib.hid (B4.out.trans (hb.mono B4.out.size)); have W5 := own_below8 W4.out hb; have K5 := K4.out.below hb K4.out.lt; have hs5 := B5.out.size; obtain ⟨m0, m1, m2, m3, m4, m5, m6, m7, m8⟩ := (N4.out.below hb N4.out.lt).eight; clear hb)
                | (at_builtin; refine wpList_append8b rfl _ _ 150 rfl w.heap.size 149 i0 (.agg #[.int .u8 0, .int .u8 0, .int .u8 0, .int .u8 0, .int .u8 0, .int .u8 0, .int .u8 0, .int .u8 0]) 8 Tryz.underlying150 hi hz0 hz1 hz2 rfl A2 r2.length c2 _ rfl W5 (ig z 0) (ig z 1) (ig z 2) (ig z 3) (ig z 4) (ig z 5) (ig z 6) (ig z 7) rfl (by unfold maxLen; omega) (by omega) hs5 b _ _ K5 AP2.out ?_; intro g6 c6 w6 hown6 hbel6 hk6 hap6))
              go_roundw
              case rel => exact ⟨i + 1, r2 ++ [z], some ⟨g6, 0, none⟩, c6, by omega, by go_num, HT.out, by simp, ⟨by rw [ZC.out]; simpa using hown6, hk6, by simpa using hap6⟩, B5.out.trans hbel6⟩
              case measure => simp [intOf]; omega
        · obtain rfl : i = m := by omega
          have HT := Lib.hid (show r2 = wo c l ss (j + 1) by rw [HR2.out, ← RS.out, HL.out])
          go_wp2
          go_roundw
          case rel => exact ⟨j + 1, r2, A2, c2, by omega, by go_num, HT.out, rfl, HW2.out, HB2.out⟩
          case measure => simp [intOf]; omega
    · obtain rfl : j = n := by omega
      have HX := HR.out
      go_wp2
      go_ret
      exact ⟨A', c', by rw [← HX]; rfl, by rw [← HX]; exact TReads.of_own HW.out, HB.out⟩
end Go.Proofs.YtcgkkppidkkjiaaGreatDoor
