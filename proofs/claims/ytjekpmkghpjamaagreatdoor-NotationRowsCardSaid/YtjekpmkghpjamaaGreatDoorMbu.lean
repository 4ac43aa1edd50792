/- The walk of decimal at the numbers of the elementary rules. -/
/- The walk of Text on valid rules of at least three states. -/
/- The notations of the law and of its examples. -/
/- Lists of numbers: what they read as; their comparison. -/
/- A made tree in memory; Eval and Syms there. -/
import Derived.Test.YtjekpmkghpjamaaGreatDoorMbt
import Derived.BigQuiet
import Derived.Test.YtjekpmkghpjamaaGreatDoorMbb
import Derived.Test.YtjekpmkghpjamaaGreatDoorMaw
import Derived.Test.YtjekpmkghpjamaaGreatDoorMbf
import Derived.Test.YtjekpmkghpjamaaGreatDoorMbr
import Derived.Test.YtjekpmkghpjamaaGreatDoorMbc
import Derived.Test.YtjekpmkghpjamaaGreatDoorMbh
import Derived.Test.YtjekpmkghpjamaaGreatDoorMab
import Derived.Test.YtjekpmkghpjamaaGreatDoorMaa
import Derived.Test.YtjekpmkghpjamaaGreatDoorMav
import Derived.Below
import Derived.Deep.AppendLies
import Derived.Deep.CutRange
import Derived.Deep.DrawnRows
import Derived.Deep.Draws
import Derived.Deep.QuietTactic
import Derived.Deep.RegionHeld3
import Derived.IntWalk
import Derived.Laws.Externs
import Derived.Laws.IdiomStrings
import Derived.Laws.OwnMore
import Derived.Laws.Rows
import Derived.Laws.ShiftsVar
import Derived.Lib.Hide
import Derived.Lib.IfaceEq
import Derived.Lib.IndexEntry
import Derived.Lib.SliceRun
import Derived.Lib.Strings
import Derived.LoopN
import Derived.OwnWalk
import Derived.Shelf.Abstract
import Derived.Shelf.Lays
import Derived.Shelf.Strings.Search1
import Derived.Shelf.Strings.SlTrimAscii
import Derived.Sort.Statements
import Derived.StillTail
import Derived.StillTailTactics
import Derived.Test.YtjekpmkghpjamaaGreatDoorRows
import Derived.WalkKit
namespace Go.Proofs.YtjekpmkghpjamaaGreatDoor
open Go.RowKit

theorem byte_text (w : World) (g : Nat) (c : Nat) (s : Nat) (h8 : s ≤ 9) (hc : w.cell? ⟨g, 0, none⟩ = some (.int .u8 (48 + (s : Int)))) : (convert 57 9 (.slice (some ⟨g, 0, none⟩) 1 c)).run Tryz.prog w = .ok (.string (tx (dg s))) w := by
  have h := run_convert_bytes_back (P := Tryz.prog) w 57 9 5 ⟨g, 0, none⟩ c (dg s) Tryz.underlying57 Tryz.underlying5 Tryz.underlying9 (fun j hj => by
    obtain rfl : j = 0 := by simp [dg] at hj; omega
    have e : ((48 + s).toUInt8).toNat = 48 + s := by simp [Nat.toUInt8]; omega
    have : (dg s)[0]'hj = (48 + s).toUInt8 := rfl
    rw [this, e]
    exact hc)
  exact h
/-- the digits of a number below 1000 -/
def dcl (n : Nat) : List UInt8 := if 100 ≤ n then dg (n / 100) ++ (dg (n / 10 % 10) ++ dg (n % 10)) else if 10 ≤ n then dg (n / 10 % 10) ++ dg (n % 10) else dg (n % 10)
theorem byte_new (w : World) (d : Nat) (h : d ≤ 9) : (convert 57 9 (.slice (some ⟨w.heap.size, 0, none⟩) 1 1)).run Tryz.prog (w.alloc (.cells #[.int .u8 (48 + (d : Int))] 5)) = .ok (.string (tx (dg d))) (w.alloc (.cells #[.int .u8 (48 + (d : Int))] 5)) :=
  byte_text (w.alloc (.cells #[.int .u8 (48 + (d : Int))] 5)) w.heap.size 1 d h (by
    have := (Blk.new w 5 #[.int .u8 (48 + (d : Int))]).cell 0
    rw [this]
    rfl)
set_option maxRecDepth 100000 in
set_option maxHeartbeats 2000000 in
theorem decimal_any {n : Nat} (hn : n ≤ 255) (w : World) : Calls Tryz.prog 5 #[.int .i64 (n : Int)] w fun e w' => e = .returned (.string (tx (dcl n))) ∧ Below w.heap.size w w' := by
  have hnI : (n : Int) ≤ 255 := by omega
  obtain ⟨d0, e0⟩ : ∃ d0, d0 = n % 10 := ⟨_, rfl⟩
  obtain ⟨d1, e1⟩ : ∃ d1, d1 = n / 10 % 10 := ⟨_, rfl⟩
  obtain ⟨d2, e2⟩ : ∃ d2, d2 = n / 100 := ⟨_, rfl⟩
  have f0 : (n : Int) % 10 = (d0 : Int) := by omega
  have f1 : (n : Int) / 10 % 10 = (d1 : Int) := by omega
  have f2 : (n : Int) / 100 = (d2 : Int) := by omega
  have g0 : d0 ≤ 9 := by omega
  have g1 : d1 ≤ 9 := by omega
  have g2 : d2 ≤ 9 := by omega
  have wi : ∀ d : Nat, d ≤ 9 → IntKind.i64.wrap (48 + (d : Int)) = 48 + (d : Int) ∧ IntKind.u8.wrap (48 + (d : Int)) = 48 + (d : Int) := fun d h => ⟨IntWalk.i64_in _ ⟨by omega, by omega⟩, IntWalk.u8_in _ ⟨by omega, by omega⟩⟩
  obtain ⟨a0, b0⟩ := wi d0 g0
  obtain ⟨a1, b1⟩ := wi d1 g1
  obtain ⟨a2, b2⟩ := wi d2 g2
  have W1 : ∀ d : Nat, (w.alloc (.cells #[.int .u8 (48 + (d : Int))] 5)).heap.size = w.heap.size + 1 := fun d => by simp
  clear wi
  by_cases h10 : 10 ≤ n
  · by_cases h100 : 100 ≤ n
    · have hl : dcl n = dg d2 ++ (dg d1 ++ dg d0) := by unfold dcl; rw [if_pos h100, e0, e1, e2]
      rw [hl]
      have k2 := byte_new w d2 g2
      have k1 := byte_new (w.alloc (.cells #[.int .u8 (48 + (d2 : Int))] 5)) d1 g1
      have k0 := byte_new ((w.alloc (.cells #[.int .u8 (48 + (d2 : Int))] 5)).alloc (.cells #[.int .u8 (48 + (d1 : Int))] 5)) d0 g0
      simp only [World.size_alloc] at k1 k0
      have p1 : ∀ w, (Op.stringOp .add (tx (dg d2)) (tx (dg d1))).run Tryz.prog w = .ok (.string (tx (dg d2 ++ dg d1))) w := fun w => add_at _ _ _ rfl (by simp [dg]) w
      have p2 : ∀ w, (Op.stringOp .add (tx (dg d2 ++ dg d1)) (tx (dg d0))).run Tryz.prog w = .ok (.string (tx (dg d2 ++ (dg d1 ++ dg d0)))) w := fun w => add_at _ _ _ (List.append_assoc _ _ _) (by simp [dg]) w
      generalize tx (dg d2 ++ dg d1) = t21 at p1 p2
      generalize tx (dg d2 ++ (dg d1 ++ dg d0)) = t210 at p2 ⊢
      generalize tx (dg d2) = t2 at k2 p1
      generalize tx (dg d1) = t1 at k1 p1
      generalize tx (dg d0) = t0 at k0 p2
      have h1 : (10 : Int) ≤ (n : Int) := by omega
      have h2 : (100 : Int) ≤ (n : Int) := by omega
      clear hl e0 e1 e2 g0 g1 g2 h10 h100 W1
      go_enter Tryz.func5, Tryz.ntmps5
      go_wp2
      go_ret
      exact ⟨rfl, (((Below.refl _ _).alloc (Nat.le_refl _) _).alloc (by simp) _).alloc (by simp; omega) _⟩
    · have hl : dcl n = dg d1 ++ dg d0 := by unfold dcl; rw [if_neg h100, if_pos h10, e0, e1]
      rw [hl]
      have k1 := byte_new w d1 g1
      have k0 := byte_new (w.alloc (.cells #[.int .u8 (48 + (d1 : Int))] 5)) d0 g0
      simp only [World.size_alloc] at k0
      have p1 : ∀ w, (Op.stringOp .add (⟨#[]⟩ : ByteArray) (tx (dg d1))).run Tryz.prog w = .ok (.string (tx (dg d1))) w := fun w => add_at [] _ _ rfl (by simp [dg]) w
      have p2 : ∀ w, (Op.stringOp .add (tx (dg d1)) (tx (dg d0))).run Tryz.prog w = .ok (.string (tx (dg d1 ++ dg d0))) w := fun w => add_at _ _ _ rfl (by simp [dg]) w
      generalize tx (dg d1 ++ dg d0) = t10 at p2 ⊢
      generalize tx (dg d1) = t1 at k1 p1 p2
      generalize tx (dg d0) = t0 at k0 p2
      have h1 : (10 : Int) ≤ (n : Int) := by omega
      have h2 : (n : Int) < (100 : Int) := by omega
      clear hl e0 e1 e2 g0 g1 g2 h10 h100 W1
      go_enter Tryz.func5, Tryz.ntmps5
      go_wp2
      go_ret
      exact ⟨rfl, ((Below.refl _ _).alloc (Nat.le_refl _) _).alloc (by simp) _⟩
  · have hl : dcl n = dg d0 := by unfold dcl; rw [if_neg (by omega), if_neg h10, e0]
    rw [hl]
    have k0 := byte_new w d0 g0
    have p1 : ∀ w, (Op.stringOp .add (⟨#[]⟩ : ByteArray) (tx (dg d0))).run Tryz.prog w = .ok (.string (tx (dg d0))) w := fun w => add_at [] _ _ rfl (by simp [dg]) w
    generalize tx (dg d0) = t0 at k0 p1 ⊢
    have h1 : (n : Int) < (10 : Int) := by omega
    have h2 : (n : Int) < (100 : Int) := by omega
    clear hl e0 e1 e2 g0 g1 g2 h10 W1
    go_enter Tryz.func5, Tryz.ntmps5
    go_wp2
    go_ret
    exact ⟨rfl, (Below.refl _ _).alloc (Nat.le_refl _) _⟩
end Go.Proofs.YtjekpmkghpjamaaGreatDoor
namespace Go.Proofs.YtjekpmkghpjamaaGreatDoor
open Go.RowKit
/-- the notation of the plain rule without its letter, and the notation -/
def tb (b l : List Int) : List UInt8 := [66] ++ dgs b ++ [47, 83] ++ dgs l
def gt (k : Nat) (b l : List Int) (s : Nat) : List UInt8 := tb b l ++ [47, 67] ++ dg s ++ lt k
theorem tt_tb (k : Nat) (b l : List Int) : tt k b l = tb b l ++ lt k := rfl
theorem tb_len (b l : List Int) : (tb b l).length = b.length + l.length + 3 := by
  simp [tb, dgs_len]; omega
theorem lt_len (k : Nat) : (lt k).length ≤ 1 := by
  unfold lt; split
  · decide
  · split <;> decide
theorem lt_vh (k : Nat) : ∀ x ∈ lt k, x = 86 ∨ x = 72 := by
  unfold lt; split
  · intro x hx; simp at hx; exact .inl hx
  · split
    · intro x hx; simp at hx; exact .inr hx
    · intro x hx; simp at hx
theorem dgs_in {l : List Int} (h : ∀ x ∈ l, 0 ≤ x ∧ x < 10) : ∀ y ∈ dgs l, y ≠ 86 ∧ y ≠ 72 := by
  intro y hy
  unfold dgs at hy
  rw [List.mem_flatMap] at hy
  obtain ⟨x, hx, hy⟩ := hy
  have hb := h x hx
  obtain ⟨n, hn⟩ : ∃ n, n = x.toNat := ⟨_, rfl⟩
  rw [← hn] at hy
  have hn10 : n < 10 := by omega
  simp only [dg, List.mem_singleton] at hy
  subst hy
  clear hn
  revert n
  decide
theorem tb_in {b l : List Int} (hb : ∀ x ∈ b, 0 ≤ x ∧ x < 10) (hl : ∀ x ∈ l, 0 ≤ x ∧ x < 10) : ∀ y ∈ tb b l, y ≠ 86 ∧ y ≠ 72 := by
  intro y hy
  simp only [tb, List.mem_append, List.mem_singleton, List.mem_cons, List.not_mem_nil, or_false] at hy
  rcases hy with ((rfl | h) | rfl | rfl) | h
  · decide
  · exact dgs_in hb y h
  · decide
  · decide
  · exact dgs_in hl y h
theorem rt_two {f : Nat → P2} {n : Nat} {s : Int} {b l : List Int} (h : rt f n s b l = true) : rt f n 2 b l = true := by
  simp only [rt, Bool.and_eq_true, decide_eq_true_eq] at h ⊢
  exact ⟨h.1, by omega, by omega, h.2.2.2⟩
section
variable (A : Option Addr) (n c : Nat) (f : Nat → P2) (s : Nat) (Ab : Option Addr) (nb cb : Nat) (b : List Int) (As : Option Addr) (ns cs : Nat) (l : List Int)
set_option maxRecDepth 100000 in
set_option maxHeartbeats 2000000 in
theorem gtext_any (w : World) (h : TR w A n f Ab nb b As ns l) (hn : n ≤ 1000) (hnb : nb ≤ 60) (hns : ns ≤ 60) (hs : 3 ≤ s) (hq : rt f n (s : Int) b l = true) :
    Calls Tryz.prog 60 #[.agg #[.slice A n c, .int .i64 (s : Int), .slice Ab nb cb, .slice As ns cs]] w fun e w' => e = .returned (.string (tx (gt (kd f n) b l s))) ∧ Below w.heap.size w w' := by
  obtain ⟨_, s8⟩ := rt_st hq
  obtain ⟨hk, ab, al⟩ := rt_parts hq
  have h9 : n ≤ 9 := by rcases kd_len hk with h | h | h <;> omega
  have hb : ∀ x ∈ b, 0 ≤ x ∧ x < 10 := fun x hx => by have := asc_bd ab x hx; omega
  have hl : ∀ x ∈ l, 0 ≤ x ∧ x < 10 := fun x hx => by have := asc_bd al x hx; omega
  have lb := reads_len h.2.1
  have ll := reads_len h.2.2
  have PL := Lib.hid (fun w' (hb : Below w.heap.size w w') => gplain_any A n c f (s : Int) Ab nb cb b As ns cs l w' (h.later hb) hn (by omega) (by omega) hq)
  have TX := Lib.hid (fun A1 c1 A2 c2 A3 c3 w' (h : TR w' A1 n f A2 nb b A3 ns l) => text_any A1 n c1 f A2 nb c2 b A3 ns c3 l w' h hn hnb hns (rt_two hq))
  have CU := fun w => cutLetter_any (tb b l) (lt (kd f n)) w (by have := lt_len (kd f n); rw [tb_len]; omega) (lt_vh _) (fun x hx => tb_in hb hl x (List.mem_of_getLast? hx))
  rw [← tt_tb] at CU
  have IT := Lib.hid (fun w => itoa_any s w (by omega))
  have HT : ((tx (tb b l) ++ (⟨#[47, 67]⟩ : ByteArray)) ++ tx (dg s)) ++ tx (lt (kd f n)) = tx (gt (kd f n) b l s) := by
    show ((tx (tb b l) ++ tx [47, 67]) ++ tx (dg s)) ++ tx (lt (kd f n)) = _
    rw [tx_addG, tx_addG, tx_addG]; rfl
  have e0 : (tx (tb b l)).toList.isEmpty = false := by
    rw [Lib.toList_data]; rfl
  have z0 : (tx (tb b l)).size ≤ 200 := by rw [tx_size, tb_len]; omega
  have z1 : (tx (dg s)).size = 1 := by rw [tx_size]; rfl
  have z2 : (tx (lt (kd f n))).size ≤ 1 := by rw [tx_size]; exact lt_len _
  rw [← HT]
  have K := Lib.hid (Blk.new w 44 #[.slice A n c, .int .i64 (s : Int), .slice Ab nb cb, .slice As ns cs])
  have B0 := Lib.hid ((Below.refl w.heap.size w).alloc (Nat.le_refl _) (.cells #[.slice A n c, .int .i64 (s : Int), .slice Ab nb cb, .slice As ns cs] 44))
  have h3 : ¬ (s : Int) < 3 := by omega
  clear h hq ab al hb hl HT hk lb ll
  generalize tx (tt (kd f n) b l) = u0 at TX CU
  generalize tx (tb b l) = u1 at CU e0 z0 ⊢
  generalize tx (dg s) = u2 at IT z1 ⊢
  generalize tx (lt (kd f n)) = u3 at CU z2 ⊢
  have zz := Lib.hid CU
  (try clear CU)
  have CU := zz
  clear zz
  obtain ⟨v1, hv1⟩ : ∃ v1, v1 = u1 ++ (⟨#[47, 67]⟩ : ByteArray) := ⟨_, rfl⟩
  obtain ⟨v2, hv2⟩ : ∃ v2, v2 = v1 ++ u2 := ⟨_, rfl⟩
  obtain ⟨v3, hv3⟩ : ∃ v3, v3 = v2 ++ u3 := ⟨_, rfl⟩
  rw [← hv1, ← hv2, ← hv3]
  have y1 : v1.size ≤ 202 := by rw [hv1, ByteArray.size_append, show (⟨#[47, 67]⟩ : ByteArray).size = 2 from rfl]; omega
  have y2 : v2.size ≤ 203 := by rw [hv2, ByteArray.size_append]; omega
  have P1 : ∀ w : World, (Op.stringOp .add u1 (⟨#[47, 67]⟩ : ByteArray)).run Tryz.prog w = .ok (.string v1) w := fun w => by rw [hv1]; exact run_string_add_sum w _ _ (by rw [show (⟨#[47, 67]⟩ : ByteArray).size = 2 from rfl]; omega)
  have P2 : ∀ w : World, (Op.stringOp .add v1 u2).run Tryz.prog w = .ok (.string v2) w := fun w => by rw [hv2]; exact run_string_add_sum w _ _ (by omega)
  have P3 : ∀ w : World, (Op.stringOp .add v2 u3).run Tryz.prog w = .ok (.string v3) w := fun w => by rw [hv3]; exact run_string_add_sum w _ _ (by omega)
  clear hv1 hv2 hv3 y1 y2 z0 z1 z2
  go_enter Tryz.func60, Tryz.ntmps60
  go_wp2_with (first
    | (go_at_call 110; (with_reducible refine (PL.out _ B0.out).mono ?_); rintro e w1 ⟨A1, c1, A2, c2, A3, c3, rfl, ht, hb⟩; have B1 := Lib.hid (B0.out.trans (hb.mono B0.out.size)); have K1 := Lib.hid (K.out.below' hb); have T1 := Lib.hid ht; clear ht hb)
    | (go_at_call 59; (with_reducible refine (TX.out _ _ _ _ _ _ _ T1.out).mono ?_); rintro e w2 ⟨rfl, hb⟩; have B2 := Lib.hid (B1.out.trans (hb.mono B1.out.size)); have K2 := Lib.hid (K1.out.below' hb); clear hb)
    | (go_at_call 38; (with_reducible refine (CU.out _).mono ?_); rintro e w3 ⟨rfl, hb⟩; have B3 := Lib.hid (B2.out.trans (hb.mono B2.out.size)); obtain ⟨k0, k1, k2, k3, k4⟩ := (K2.out.below' hb).four; clear hb)
    | (go_at_call 70; (with_reducible refine (IT.out _).mono ?_); rintro e w4 ⟨rfl, rfl⟩))
  go_ret
  exact ⟨rfl, B3.out⟩
end
end Go.Proofs.YtjekpmkghpjamaaGreatDoor
namespace Go.Proofs.YtjekpmkghpjamaaGreatDoor
open Go.RowKit

theorem dcl_num : ∀ x : Nat, x < 256 → numl (dcl x) = true ∧ nv (dcl x) = (x : Int) ∧ 47 ∉ dcl x ∧ ((87 :: dcl x).getLast?.all fun y => y != 86 && y != 72) = true ∧ 1 ≤ (dcl x).length ∧ (dcl x).length ≤ 3 := by decide +kernel
theorem wpar_row {x : Nat} (h : x ≤ 255) : WPar (87 :: dcl x) 2 (x : Int) false := fun u v w hv => by
  obtain ⟨h1, h2, h3, h4, h5, h6⟩ := dcl_num x (by omega)
  have := go_w u v (dcl x) w hv (by omega) h1 (by rw [h2]; omega)
  rwa [h2] at this
theorem kind_row {x : Nat} (h : x ≤ 255) : KindIs (87 :: dcl x) 3 := by
  obtain ⟨h1, h2, h3, h4, h5, h6⟩ := dcl_num x (by omega)
  exact kind_3 (lsyn_head (by decide) (by decide) (by decide) (by simp; omega) (by simp; omega)) (gsyn_slashless (fun hm => by
    rcases List.mem_cons.1 hm with e | e
    · exact absurd e (by decide)
    · exact h3 e) (by decide) (by simp; omega) (by simp; omega) h4) (wpar_row h) (fun w => prefix_w (87 :: dcl x) true (by simp) (by simp; omega) rfl w)
/-- Parse of an elementary rule -/
theorem nparse_row {x : Nat} (h : x ≤ 255) {m : Int} {u : TypeId} {y : Value} {u' : TypeId} {y' : Value} {w : World} (hv : Vars m u y u' y' w) : Calls Tryz.prog 4 #[.string (tx (87 :: dcl x))] w (NtOut 3 rowf (FR x) w) :=
  nparse_3 (kind_row h) (wpar_row h) (fun w => elem_nt h w) hv
theorem wsyn_life : WSyn [108, 105, 102, 101] := fun u v w hv => go_syn u v [108, 105, 102, 101] [] [] false w hv (by simp) (by simp) (by decide) (divide_no _ w (by decide) (fun r h => by injection h with h _; exact absurd h (by decide)) (fun r h => by injection h with h _; exact absurd h (by decide)))
theorem wsyn_b3s : WSyn [98, 51, 47, 115, 50, 51] := fun u v w hv => go_syn u v [98, 51, 47, 115, 50, 51] [] [] false w hv (by simp) (by simp) (by decide) (divide_no _ w (by decide) (fun r h => by injection h with h _; exact absurd h (by decide)) (fun r h => by injection h with h _; exact absurd h (by decide)))
theorem wsyn_xn : WSyn [120, 10] := fun u v w hv => go_syn u v [120, 10] [] [] false w hv (by simp) (by simp) (by decide) (divide_no _ w (by decide) (fun r h => by injection h with h _; exact absurd h (by decide)) (fun r h => by injection h with h _; exact absurd h (by decide)))
theorem wpar_t7 : WPar [84, 55, 55, 55, 47, 51] 3 777 true := fun u v w hv => by
  have := go_t u v [55, 55, 55] [51] w hv (by decide) (by decide) (by decide) (by decide +kernel)
  rw [show nv [55, 55, 55] = 777 by decide, show nv [51] = 3 by decide] at this
  exact this
theorem lok_life : LOk [66, 51, 47, 83, 50, 51] 9 1 2 (lf M1) [3] [2, 3] := fun w => lpar_life w
theorem lok_hex : LOk [66, 50, 47, 83, 51, 52, 72] 7 1 2 (lf HX) [2] [3, 4] := fun w => lpar_hex w
theorem kind_life : KindIs [66, 51, 47, 83, 50, 51] 1 := kind_1 (by decide) lok_life.any
theorem gany_gen : GAny [47, 50, 47, 51] 0 := fun m u x w hv => (gex0 m u x w hv).mono (by
  rintro e w' ⟨A, c, A1, c1, A2, c2, h1, h2, h3⟩
  exact ⟨A, 9, c, 3, A1, 1, c1, A2, 0, c2, h1, h3⟩)
theorem kind_gen : KindIs [47, 50, 47, 51] 2 := kind_2 (by decide) lsyn_gen gany_gen
theorem kind_t7 : KindIs [84, 55, 55, 55, 47, 51] 4 := kind_4 lsyn_t7 gsyn_t7 wpar_t7 (fun w => prefix_w _ false (by decide) (by decide) (by decide) w)
theorem kind_b3s : KindIs [98, 51, 47, 115, 50, 51] 0 := kind_0 lsyn_b3s gsyn_b3s wsyn_b3s (fun w => contains_lf _ false (by decide) (by decide) (by decide +kernel) w)
theorem kind_word : KindIs [108, 105, 102, 101] 0 := kind_0 lsyn_life gsyn_life wsyn_life (fun w => contains_lf _ false (by decide) (by decide) (by decide +kernel) w)
theorem kind_xn : KindIs [120, 10] 5 := kind_5 lsyn_xn gsyn_xn wsyn_xn (fun w => contains_lf _ true (by decide) (by decide) (by decide +kernel) w)
theorem kind_w30 : KindIs [87, 51, 48] 3 := kind_row (x := 30) (by decide)
theorem lrg_b9 (w : World) : Calls Tryz.prog 14 #[.string (tx [66, 57, 47, 83])] w fun e w' => e = .returned (.tuple #[.agg #[.slice none 0 0, .int .i64 0, .slice none 0 0, .slice none 0 0], .int .i64 5]) ∧ Below w.heap.size w w' :=
  parse_rg [66, 57, 47, 83] [57, 47, 83] [47, 83] [] [] [9] [] 9 (lf M1) w (by decide) (by decide +kernel) (by decide +kernel) (by decide +kernel) (by decide +kernel) (by decide +kernel) (by decide +kernel) (by decide) (by decide) (by decide +kernel) offsets0
theorem np_life {m : Int} {u : TypeId} {x : Value} {u' : TypeId} {x' : Value} {w : World} (hv : Vars m u x u' x' w) : Calls Tryz.prog 4 #[.string (tx [66, 51, 47, 83, 50, 51])] w (NtOut 9 (lf M1) FLife w) := nparse_1 (k := 8) (cen := 4) lok_life (by decide) rfl (by decide) (by decide) rt_life hd_life ce_life (by decide) hv
theorem np_hex {m : Int} {u : TypeId} {x : Value} {u' : TypeId} {x' : Value} {w : World} (hv : Vars m u x u' x' w) : Calls Tryz.prog 4 #[.string (tx [66, 50, 47, 83, 51, 52, 72])] w (NtOut 7 (lf HX) FHex w) := nparse_1 (k := 6) (cen := 3) lok_hex (by decide) rfl (by decide) (by decide) rt_hex hd_hex ce_hex (by decide) hv
theorem np_110 {m : Int} {u : TypeId} {x : Value} {u' : TypeId} {x' : Value} {w : World} (hv : Vars m u x u' x' w) : Calls Tryz.prog 4 #[.string (tx [87, 49, 49, 48])] w (NtOut 3 rowf (FR 110) w) := nparse_row (x := 110) (by decide) hv
theorem np_b9 {m : Int} {u : TypeId} {x : Value} {u' : TypeId} {x' : Value} {w : World} (hv : Vars m u x u' x' w) : Calls Tryz.prog 4 #[.string (tx [66, 57, 47, 83])] w fun e w' => e = .returned (.tuple #[.agg #[.int .i64 0, .slice none 0 0, .slice none 0 0], .int .i64 5]) ∧ Below w.heap.size w w' := nparse_err (by decide) (by decide) lrg_b9 hv
theorem np_word {m : Int} {u : TypeId} {x : Value} {u' : TypeId} {x' : Value} {w : World} (hv : Vars m u x u' x' w) : Calls Tryz.prog 4 #[.string (tx [108, 105, 102, 101])] w fun e w' => e = .returned (.tuple #[.agg #[.int .i64 0, .slice none 0 0, .slice none 0 0], .int .i64 7]) ∧ Below w.heap.size w w' := nparse_0 kind_word hv
set_option maxRecDepth 100000 in
set_option maxHeartbeats 2000000 in
theorem canon_gen {m : Int} {u : TypeId} {x : Value} {u' : TypeId} {x' : Value} {w : World} (hv : Vars m u x u' x' w) : Calls Tryz.prog 29 #[.string (tx [47, 50, 47, 51])] w fun e w' => e = .returned (.tuple #[.string (tx [66, 50, 47, 83, 47, 67, 51]), .int .i64 0]) ∧ Below w.heap.size w w' := by
  have KD := kind_gen
  unfold KindIs at KD
  have GP := fun w hv => gex0 m u x w hv
  have GT : ∀ (w : World) (A A1 A2 : Option Addr) (c c1 c2 : Nat), TR w A 9 (lf M1) A1 1 [2] A2 0 [] → Calls Tryz.prog 60 #[.agg #[.slice A 9 c, .int .i64 3, .slice A1 1 c1, .slice A2 0 c2]] w fun e w' => e = .returned (.string (tx [66, 50, 47, 83, 47, 67, 51])) ∧ Below w.heap.size w w' := fun w A A1 A2 c c1 c2 h => by
    have h1 := gtext_any A 9 c (lf M1) 3 A1 1 c1 [2] A2 0 c2 [] w h (by decide) (by decide) (by decide) (by decide) (by decide +kernel)
    rw [show gt (kd (lf M1) 9) [2] [] 3 = [66, 50, 47, 83, 47, 67, 51] by decide +kernel] at h1
    exact h1
  generalize tx [47, 50, 47, 51] = t at KD GP ⊢
  generalize tx [66, 50, 47, 83, 47, 67, 51] = t2 at GT ⊢
  have HV := Lib.hid hv
  have zz := Lib.hid KD
  (try clear KD)
  have KD := zz
  clear zz
  have zz := Lib.hid GP
  (try clear GP)
  have GP := zz
  clear zz
  have zz := Lib.hid GT
  (try clear GT)
  have GT := zz
  clear zz
  clear hv
  go_enter Tryz.func29, Tryz.ntmps29
  go_wp2_with (first
    | (go_at_call 12; (with_reducible refine (KD.out _ _ _ _ _ _ HV.out).mono ?_); rintro e w1 ⟨rfl, hb⟩; have B1 := Lib.hid hb; clear hb)
    | (go_at_call 15; (with_reducible refine (GP.out _ (HV.out.later B1.out).g).mono ?_); rintro e w2 ⟨A, c, A1, c1, A2, c2, rfl, ht, hb⟩; have B2 := Lib.hid (B1.out.trans ((hb.alloc hb.size (.cells #[.slice A 9 c, .int .i64 3, .slice A1 1 c1, .slice A2 0 c2] 44)).mono B1.out.size)); have T2 := Lib.hid (ht.later ((Below.refl _ _).alloc (Nat.le_refl _) (.cells #[.slice A 9 c, .int .i64 3, .slice A1 1 c1, .slice A2 0 c2] 44))); obtain ⟨k0, k1, k2, k3, k4⟩ := (Blk.new w2 44 #[.slice A 9 c, .int .i64 3, .slice A1 1 c1, .slice A2 0 c2]).four; clear hb ht)
    | (go_at_call 60; (with_reducible refine (GT.out _ _ _ _ _ _ _ T2.out).mono ?_); rintro e w3 ⟨rfl, hb⟩; have B3 := Lib.hid (B2.out.trans (hb.mono B2.out.size)); clear hb))
  go_ret2
  exact ⟨rfl, B3.out⟩
end Go.Proofs.YtjekpmkghpjamaaGreatDoor
namespace Go.Proofs.YtjekpmkghpjamaaGreatDoor
open Go.RowKit
set_option maxRecDepth 100000 in
set_option maxHeartbeats 1000000 in
theorem lints_yes (A A' : Option Addr) (n c c' : Nat) (l : List Int) (w : World) (h : Reads w w.heap.size A n (il l)) (h' : Reads w w.heap.size A' n (il l)) (hn : n ≤ 1000000) :
    Calls Tryz.prog 9 #[.slice A n c, .slice A' n c'] w fun e w' => e = .returned (.bool true) ∧ Below w.heap.size w w' := by
  have H := Lib.hid h
  have H' := Lib.hid h'
  clear h h'
  go_enter Tryz.func9, Tryz.ntmps9
  go_wp2
  go_loopw [13] (fun iv wr => ∃ j : Nat, j ≤ n ∧ iv = .int .i64 (j : Int) ∧ Below w.heap.size w wr) (fun iv _ => n - (intOf iv).toNat)
  case atStart => exact ⟨0, Nat.zero_le _, rfl, Below.refl _ _⟩
  case round =>
    obtain ⟨j, hj, rfl, hbel⟩ := hrel
    have HB := Lib.hid hbel
    by_cases hk : j < n
    · obtain ⟨a1, rfl, hb1, hc1⟩ := il_at (H.out.below hbel) hk
      obtain ⟨a2, rfl, hb2, hc2⟩ := il_at (H'.out.below hbel) hk
      clear hbel
      generalize ig l j = x at hc1 hc2
      go_wp2_with fail
      go_quiet (fail)
      go_wp2
      go_roundw
      case rel => exact ⟨j + 1, by omega, by go_num, below_drewN HB.out _⟩
      case measure => simp [intOf]; omega
    · obtain rfl : j = n := by omega
      clear hbel
      go_wp2
      go_ret
      exact ⟨rfl, HB.out⟩
end Go.Proofs.YtjekpmkghpjamaaGreatDoor
namespace Go.Proofs.YtjekpmkghpjamaaGreatDoor
open Go.RowKit

/-- a tree of two states that leads to F lies there -/
def TI (w : World) (n : Nat) (f : Nat → P2) (F : List Int → Int) (AI AN : Option Addr) (m : Nat) : Prop :=
  ∃ out : List (Int × List Int), m = out.length ∧ 1 ≤ out.length ∧ out.length ≤ 512 ∧ Gd 2 n out ∧ Mn 2 out n F ((out.length : Int) - 1) ∧ TS w AI AN (trO 2 n f out)
section
variable {w w' : World} {n m : Nat} {f : Nat → P2} {F : List Int → Int} {AI AN : Option Addr}
theorem TI.later (h : TI w n f F AI AN m) (hb : Below w.heap.size w w') : TI w' n f F AI AN m := by
  obtain ⟨out, h1, h2, h3, h4, h5, h6⟩ := h
  exact ⟨out, h1, h2, h3, h4, h5, h6.later hb⟩
theorem NtOut.ti {e : Ending} (h : NtOut n f F w e w') : ∃ AI cI AN cN m, e = .returned (.tuple #[.agg #[.int .i64 2, .slice AI n cI, .slice AN m cN], .int .i64 0]) ∧ TI w' n f F AI AN m ∧ Below w.heap.size w w' := by
  obtain ⟨AI, cI, AN, cN, out, h1, h2, h3, h4, h5, h6, h7⟩ := h
  exact ⟨AI, cI, AN, cN, out.length, h1, ⟨out, rfl, h4, h5, h3, h6, h2.ts 2⟩, h7⟩
theorem eval_ti (h : TI w n f F AI AN m) (hd : Hd f n) (cI cN : Nat) (q : Nat) (A : Option Addr) (c : Nat) (l : List Int) (hI : Reads w w.heap.size A q (il l)) (hq : q ≤ 1000000) :
    Calls Tryz.prog 8 #[.agg #[.int .i64 2, .slice AI n cI, .slice AN m cN], .slice A q c] w fun e w'' => e = .returned (.tuple #[.int .i64 (ev 2 n l (F l)).1, .int .i64 (ev 2 n l (F l)).2]) ∧ Below w.heap.size w w'' := by
  obtain ⟨out, rfl, h2, h3, h4, h5, h6⟩ := h
  have h := eval_any (AH := AI) (cH := cI) (AN := AN) (cN := cN) (T := trO 2 n f out) (AI := A) (cI := c) (l := l) (w := w) q h6 (rtt_out (by omega) (by omega) hd h4 h2 (by omega) h5) hI hq
  have e := ev_out (S := 2) h2 h5 l
  refine h.mono ?_
  rintro e' w'' ⟨rfl, hb'⟩
  refine ⟨?_, hb'⟩
  show Ending.returned (.tuple #[.int .i64 (ev 2 n l (fo (nxO out) ((out.length - 1 : Nat) : Int) l)).1, .int .i64 (ev 2 n l (fo (nxO out) ((out.length - 1 : Nat) : Int) l)).2]) = _
  rw [show ((2 : Nat) : Int) = 2 from rfl] at e
  rw [e]
theorem syms_ti (h : TI w n f F AI AN m) (hM : Mat w) (hd : Hd f n) (h9 : n ≤ 9) (cI cN : Nat) :
    Calls Tryz.prog 10 #[.agg #[.int .i64 2, .slice AI n cI, .slice AN m cN]] w fun e w' => ∃ A c, e = .returned (.slice A (nl (sqy F f n) 8).length c) ∧ Reads w' w'.heap.size A (nl (sqy F f n) 8).length (il (nl (sqy F f n) 8)) ∧ Below w.heap.size w w' := by
  obtain ⟨out, rfl, h2, h3, h4, h5, h6⟩ := h
  exact syms_any (T := trO 2 n f out) (sn := 2) (rtt_out (by omega) (by omega) hd h4 h2 (by omega) h5) h9 rfl (Nat.le_trans (Nat.pow_le_pow_right (by omega) h9) (by decide)) (syq_of hd h2 h5) hM h6
end
end Go.Proofs.YtjekpmkghpjamaaGreatDoor
