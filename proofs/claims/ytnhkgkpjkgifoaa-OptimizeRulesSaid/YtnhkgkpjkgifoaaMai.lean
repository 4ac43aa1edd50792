/- The walk of collected, over any function that adds gates. -/
/- Circuits as values; the walks of Right and fits. -/
/- The reference's Right at valid circuits. -/
import Derived.Test.YtnhkgkpjkgifoaaMah
import Derived.Deep.OwnRows
import Derived.Test.YtnhkgkpjkgifoaaMag
import Derived.Test.YtnhkgkpjkgifoaaMaa
import Derived.Test.YtnhkgkpjkgifoaaMac
import Derived.Test.YtnhkgkpjkgifoaaMab
import Derived.Below
import Derived.BigQuiet
import Derived.Deep.AppendLies
import Derived.Deep.CutRange
import Derived.Deep.Draws
import Derived.Deep.QuietTactic
import Derived.IntWalk
import Derived.Laws.CopyOwn
import Derived.Laws.OwnMore
import Derived.Laws.Rows
import Derived.Lib.Hide
import Derived.Lib.SliceRun
import Derived.LoopN
import Derived.OwnWalk
import Derived.StillTail
import Derived.StillTailTactics
import Derived.Test.YtnhkgkpjkgifoaaRows
import Derived.WalkKit
namespace Go.Proofs.Ytnhkgkpjkgifoaa
open Go.RowKit

theorem Try.info_intL : (Try.prog.info? 3).map (fun i => (i.zero, i.size, i.bytes)) = some (some (.int .i64 0), 1, 8) := by kernel_rfl
theorem made_il (n : Nat) : madeCells #[Value.int .i64 0] n = (il (List.replicate n 0)).toArray := by
  apply Array.ext
  · simp [madeCells, il]
  · intro i h1 h2
    simp [madeCells, il, Nat.mod_one]
theorem mk_ints (n : Nat) (hn : n ≤ 1000000) (w : World) : (Instr.makeSlice 26 (.int .i64 (n : Int)) (.int .i64 (n : Int))).run Try.prog w = .ok (.slice (some ⟨w.heap.size, 0, none⟩) n n) (w.alloc (.cells (il (List.replicate n 0)).toArray 3)) := by
  rw [run_make_row' 26 3 (.int .i64 0) 8 Try.underlying26 Try.info_intL rfl .i64 .i64 n (by omega) (by omega) w, made_il]
/-- a row's block is none of another type -/
theorem own_ob_ne {w : World} {base k n c gc : Nat} {e t : TypeId} {A : Option Addr} {xs : List Value} {cs : Array Value} (h : w.ownsRow base e k (.slice A n c) n xs) (hb : Blk w gc t cs) (hne : e ≠ t) : ¬ ob A gc := by
  intro ha
  rcases h.2 with ⟨hv, _⟩ | ⟨g, cap, cur, hv, _, hg, _⟩
  · injection hv with e1; subst e1; cases ha
  · injection hv with e1
    subst e1
    have q : g = gc := by simpa [ob, Value.ownBlock] using ha
    subst q
    rw [show w.heap[g]? = _ from hb] at hg
    injection hg with hg
    injection hg with _ ht
    exact hne ht.symm
/-- the wires of the numbers below n -/
def coF (M : Nat → List C3 → Int × List C3) : Nat → List C3 → List Int × List C3
  | 0, gs => ([], gs)
  | j + 1, gs => ((coF M j gs).1 ++ [(M j (coF M j gs).2).1], (M j (coF M j gs).2).2)
theorem coF_len (M : Nat → List C3 → Int × List C3) (gs : List C3) : ∀ j, (coF M j gs).1.length = j
  | 0 => rfl
  | j + 1 => by rw [coF, List.length_append, coF_len M gs j]; rfl
theorem set_il (l : List Int) (k : Nat) (v : Int) (n : Nat) (hn : n = l.length) : (il (l ++ List.replicate (k + 1) 0)).toArray.setIfInBounds n (.int .i64 v) = (il (l ++ [v] ++ List.replicate k 0)).toArray := by
  subst hn
  rw [List.replicate_succ, List.append_assoc]
  simp [il]
set_option maxRecDepth 100000 in
set_option maxHeartbeats 2000000 in
theorem collected_any (G : FuncId) (cb : Array Value) (eg : ∀ args w, (callFunc G args).run Try.prog w = .ok (.enter G args) w) (lb base : Nat) (I : Int) (O : Oc) (M : Nat → List C3 → Int × List C3) (n : Nat) (w : World) (A : Option Addr) (gs : List C3) (h : GSt lb base I O w A gs) (hlb : lb < base) (hb : base ≤ w.heap.size) (hn : n ≤ 1000000)
    (HM : ∀ (i : Nat) (w' : World) (A' : Option Addr) (G' : Nat → Prop), i < n → GSt lb base I O w' A' (coF M i gs).2 → Fr (gb lb A) w G' w' → Calls Try.prog G (#[.int .i64 (i : Int)] ++ cb) w' fun e w'' => ∃ A'', e = .returned (.int .i64 (M i (coF M i gs).2).1) ∧ GSt lb base I O w'' A'' (M i (coF M i gs).2).2 ∧ Fr (gb lb A') w' (gb lb A'') w'') :
    Calls Try.prog 59 #[.int .i64 (n : Int), .func (.func G) #[] cb] w fun e w' => ∃ g A', e = .returned (.slice (some ⟨g, 0, none⟩) n n) ∧ Blk w' g 3 (il (coF M n gs).1).toArray ∧ w.heap.size ≤ g ∧ GSt lb base I O w' A' (coF M n gs).2 ∧ Fr (gb lb A) w (gb lb A') w' := by
  have mk := mk_ints n hn w
  have K0 := Blk.new w 3 (il (List.replicate n 0)).toArray
  have F0 := Fr.alloc (gb lb A) w (.cells (il (List.replicate n 0)).toArray 3)
  have z0 : (w.alloc (.cells (il (List.replicate n 0)).toArray 3)).heap.size = w.heap.size + 1 := by simp
  have HMH := Lib.hid HM
  have HL := Lib.hid h
  clear HM h
  go_enter Try.func59, Try.ntmps59
  go_wp2_with fail
  have HS0 := Lib.hid (show GSt lb base I O (w.alloc (.cells (il (List.replicate n 0)).toArray 3)) A gs from by
    obtain ⟨c, hk, ho⟩ := HL.out
    exact ⟨c, hk.alloc _, ho.alloc _⟩)
  have HF0 := Lib.hid (show Fr (gb lb A) w (fun k => gb lb A k ∨ k = w.heap.size) (w.alloc (.cells (il (List.replicate n 0)).toArray 3)) from F0.weak (fun _ h => h) (fun k hk => by
    rcases hk with hk | hk
    · exact .inl hk
    · right; omega))
  have K0 := Lib.hid K0
  generalize w.alloc (.cells (il (List.replicate n 0)).toArray 3) = w0 at K0 HS0 HF0 ⊢
  have hnl : lb ≠ w.heap.size := by omega
  clear mk z0 F0
  exact (by
    go_loopw [11] (fun iv wr => ∃ (j : Nat) (ws : List Int) (A1 : Option Addr) (g1 : List C3), j ≤ n ∧ iv = .int .i64 (j : Int) ∧ Hid (coF M j gs = (ws, g1)) ∧ Hid (Blk wr w.heap.size 3 (il (ws ++ List.replicate (n - j) 0)).toArray) ∧ Hid (GSt lb base I O wr A1 g1) ∧ Hid (Fr (gb lb A) w (fun k => gb lb A1 k ∨ k = w.heap.size) wr)) (fun iv _ => n - (intOf iv).toNat)
    case atStart => exact ⟨0, [], A, gs, Nat.zero_le _, rfl, Lib.hid rfl, by simpa using K0, HS0, HF0⟩
    case round =>
      obtain ⟨j, ws, A1, g1, hj, rfl, HC, HK, HS, HF⟩ := hrel
      have hwl : ws.length = j := by have := coF_len M gs j; rw [HC.out] at this; exact this
      by_cases hlt : j < n
      · have hjI : (j : Int) < (n : Int) := by omega
        have CC := HMH.out j wr A1 _ hlt (by rw [HC.out]; exact HS.out) HF.out
        rw [HC.out] at CC
        simp only at CC
        have HCS := Lib.hid (show coF M (j + 1) gs = (ws ++ [(M j g1).1], (M j g1).2) from by rw [coF, HC.out])
        generalize (M j g1).1 = z at CC HCS
        generalize (M j g1).2 = g2 at CC HCS
        have hne : ¬ gb lb A1 w.heap.size := fun e => by
          rcases e with e | e
          · exact hnl e.symm
          · obtain ⟨c, _, ho⟩ := HS.out
            exact own_ob_ne ho HK.out (by decide) e
        have CC := Lib.hid CC
        have kc : (il (ws ++ List.replicate (n - j) 0)).toArray[j]? = some (.int .i64 0) := by
          rw [show n - j = (n - (j + 1)) + 1 by omega, List.replicate_succ]
          simp [il, hwl]
        have HKC := Lib.hid kc
        have HWL := Lib.hid hwl
        have HNE := Lib.hid hne
        clear kc hwl hne
        exact (by
          go_wp2_with ((with_reducible refine (CC.out).mono ?_); rintro e w2 ⟨A2, rfl, hs, hf⟩; have S2 := Lib.hid hs; have F2 := Lib.hid hf; have K2 := Lib.hid (hf.blk HK.out HNE.out); have c2 : w2.cell? ⟨w.heap.size, j, none⟩ = some (.int .i64 0) := (K2.out.cell j).trans HKC.out; have f2 := K2.out.frozen j; have l2 := K2.out.lt; clear hs hf)
          go_roundw
          case rel =>
            have hwl := HWL.out
            have FS : Fr (fun k => gb lb A2 k ∨ k = w.heap.size) w2 (fun k => gb lb A2 k ∨ k = w.heap.size) (w2.setCell ⟨w.heap.size, j, none⟩ (.int .i64 z)) := Fr.set_ w2 (p := ⟨w.heap.size, j, none⟩) _ (.inr rfl)
            have FT : Fr (fun k => gb lb A1 k ∨ k = w.heap.size) wr (fun k => gb lb A2 k ∨ k = w.heap.size) w2 := F2.out.weak' (fun k => k = w.heap.size)
            refine ⟨j + 1, ws ++ [z], A2, g2, by omega, by go_num, HCS, Lib.hid ?_, Lib.hid ?_, Lib.hid ((HF.out.trans FT).trans FS)⟩
            · have := K2.out.set_ j (.int .i64 z)
              rw [show n - j = (n - (j + 1)) + 1 by omega, set_il ws (n - (j + 1)) z j hwl.symm] at this
              exact this
            · refine S2.out.keep (Fr.set_ (G := fun k => k = w.heap.size) w2 (p := ⟨w.heap.size, j, none⟩) _ rfl) hnl (fun k hk e => ?_)
              subst e
              obtain ⟨c, _, ho⟩ := S2.out
              exact own_ob_ne ho K2.out (by decide) hk
          case measure => simp [intOf]; omega)
      · obtain rfl : j = n := by omega
        go_wp2
        go_ret
        have hK := HK.out
        rw [Nat.sub_self, List.replicate_zero, List.append_nil] at hK
        exact ⟨w.heap.size, A1, rfl, by rw [HC.out]; exact hK, Nat.le_refl _, by rw [HC.out]; exact HS.out, ⟨HF.out.os, HF.out.tape, HF.out.output, HF.out.size, HF.out.block, fun k hk => HF.out.new k (.inl hk)⟩⟩)
end Go.Proofs.Ytnhkgkpjkgifoaa
namespace Go.Proofs.Ytnhkgkpjkgifoaa
open Go.RowKit
/-- a circuit: its inputs, n gates, its outputs -/
structure Cr where
  ins : Int
  n : Nat
  g : Nat → C3
  o : List Int
/-- a circuit in memory -/
def CS (w : World) (AG AO : Option Addr) (C : Cr) : Prop := CReads w w.heap.size AG C.n C.g ∧ Reads w w.heap.size AO C.o.length (il C.o)
theorem CS.later {w w' : World} {AG AO : Option Addr} {C : Cr} (h : CS w AG AO C) (hb : Below w.heap.size w w') : CS w' AG AO C := ⟨CReads.later h.1 hb, Reads.later h.2 hb⟩
/-- whether a circuit is valid -/
def rt (C : Cr) : Bool := decide (0 ≤ C.ins ∧ C.ins ≤ 1000 ∧ C.n ≤ 20000 ∧ C.o.length ≤ 1000) && (List.range C.n).all (fun k => rg (C.g k) (C.ins + (k : Int))) && (List.range C.o.length).all (fun k => isw (ig C.o k) (C.ins + (C.n : Int)))
theorem rt_iff (C : Cr) : rt C = true ↔ (0 ≤ C.ins ∧ C.ins ≤ 1000 ∧ C.n ≤ 20000 ∧ C.o.length ≤ 1000) ∧ (∀ k, k < C.n → rg (C.g k) (C.ins + (k : Int)) = true) ∧ ∀ k, k < C.o.length → isw (ig C.o k) (C.ins + (C.n : Int)) = true := by
  simp only [rt, Bool.and_eq_true, decide_eq_true_eq, List.all_eq_true, List.mem_range, and_assoc]
theorem rt_no {C : Cr} (h : ¬ (0 ≤ C.ins ∧ C.ins ≤ 1000 ∧ C.n ≤ 20000 ∧ C.o.length ≤ 1000)) : rt C = false := by
  rw [← Bool.not_eq_true, rt_iff]; exact fun h' => h h'.1
theorem rt_gate {C : Cr} {k : Nat} (hk : k < C.n) (h : rg (C.g k) (C.ins + (k : Int)) = false) : rt C = false := by
  rw [← Bool.not_eq_true, rt_iff]; intro h'; rw [h'.2.1 k hk] at h; cases h
theorem rt_out {C : Cr} {k : Nat} (hk : k < C.o.length) (h : isw (ig C.o k) (C.ins + (C.n : Int)) = false) : rt C = false := by
  rw [← Bool.not_eq_true, rt_iff]; intro h'; rw [h'.2.2 k hk] at h; cases h

set_option maxRecDepth 100000 in
set_option maxHeartbeats 1000000 in
theorem right_bad (AG AO : Option Addr) (cG cO : Nat) (C : Cr) (w : World) (h : ¬ (0 ≤ C.ins ∧ C.ins ≤ 1000 ∧ C.n ≤ 20000 ∧ C.o.length ≤ 1000)) (hm : C.n ≤ 1000000) (hl : C.o.length ≤ 1000000) :
    Calls Try.prog 65 #[.agg #[.int .i64 C.ins, .slice AG C.n cG, .slice AO C.o.length cO]] w fun e w' => e = .returned (.bool false) ∧ Below w.heap.size w w' := by
  obtain ⟨I, n, g, o⟩ := C
  simp only at *
  generalize o.length = q at *
  have B1 := Lib.hid ((Below.refl w.heap.size w).alloc (Nat.le_refl _) (.cells #[.int .i64 I, .slice AG n cG, .slice AO q cO] 34))
  by_cases h0 : I < 0
  · clear h
    go_enter Try.func65, Try.ntmps65
    go_wp2
    go_ret
    exact ⟨rfl, B1.out⟩
  by_cases h1 : 1000 < I
  · clear h
    go_enter Try.func65, Try.ntmps65
    go_wp2
    go_ret
    exact ⟨rfl, B1.out⟩
  by_cases h2 : (20000 : Int) < (n : Int)
  · clear h
    go_enter Try.func65, Try.ntmps65
    go_wp2
    go_ret
    exact ⟨rfl, B1.out⟩
  have h3 : (1000 : Int) < (q : Int) := by omega
  clear h
  go_enter Try.func65, Try.ntmps65
  go_wp2
  go_ret
  exact ⟨rfl, B1.out⟩
set_option maxRecDepth 100000 in
set_option maxHeartbeats 2000000 in
theorem right_any (AG AO : Option Addr) (cG cO : Nat) (C : Cr) (w : World) (h : CS w AG AO C) (hm : C.n ≤ 1000000) (hl : C.o.length ≤ 1000000) :
    Calls Try.prog 65 #[.agg #[.int .i64 C.ins, .slice AG C.n cG, .slice AO C.o.length cO]] w fun e w' => e = .returned (.bool (rt C)) ∧ Below w.heap.size w w' := by
  by_cases hok : 0 ≤ C.ins ∧ C.ins ≤ 1000 ∧ C.n ≤ 20000 ∧ C.o.length ≤ 1000
  · have RG := Lib.hid (fun k hk he => rt_gate (C := C) (k := k) hk he)
    have RO := Lib.hid (fun k hk he => rt_out (C := C) (k := k) hk he)
    have RY := Lib.hid (fun h1 h2 => (rt_iff C).2 ⟨hok, h1, h2⟩)
    obtain ⟨b, hb⟩ : ∃ b, b = rt C := ⟨_, rfl⟩
    rw [← hb] at RG RO RY ⊢
    clear hb
    obtain ⟨HG, HO⟩ := h
    obtain ⟨I, n, g, o⟩ := C
    simp only at *
    obtain ⟨q, hq⟩ : ∃ q, q = o.length := ⟨_, rfl⟩
    rw [← hq] at RO RY HO hok ⊢
    clear hq hl
    obtain ⟨h0, h1, h2, h3⟩ := hok
    obtain ⟨i, rfl⟩ : ∃ i : Nat, I = (i : Int) := ⟨I.toNat, by omega⟩
    have g0 : ¬ ((i : Int) < 0) := by omega
    have g1 : ¬ ((1000 : Int) < (i : Int)) := by omega
    have g2 : ¬ ((20000 : Int) < (n : Int)) := by omega
    have g3 : ¬ ((1000 : Int) < (q : Int)) := by omega
    have B1 := (Below.refl w.heap.size w).alloc (Nat.le_refl _) (.cells #[.int .i64 (i : Int), .slice AG n cG, .slice AO q cO] 34)
    have K1 := Lib.hid (Blk.new w 34 #[.int .i64 (i : Int), .slice AG n cG, .slice AO q cO])
    have HG := Lib.hid (CReads.later HG B1)
    have HO := Lib.hid (Reads.later HO B1)
    have B1 := Lib.hid B1
    go_enter Try.func65, Try.ntmps65
    go_upto_region 1 with (fail)
    generalize w.alloc (.cells #[.int .i64 (i : Int), .slice AG n cG, .slice AO q cO] 34) = w1 at *
    obtain ⟨a0, a1, a2, _, _, _, a6⟩ := K1.out.three6
    go_wp2
    go_loopw [30] (fun iv wr => ∃ j : Nat, j ≤ n ∧ iv = .int .i64 (j : Int) ∧ Hid (∀ k, k < j → rg (g k) ((i : Int) + (k : Int)) = true) ∧ Below w1.heap.size w1 wr) (fun iv _ => n - (intOf iv).toNat)
    case atStart => exact ⟨0, Nat.zero_le _, rfl, Lib.hid (fun k hk => absurd hk (by omega)), Below.refl _ _⟩
    case round =>
      obtain ⟨j, hj, rfl, HJ, hbel⟩ := hrel
      have K2 := K1.out.below hbel a6
      clear a0 a1 a2 a6
      obtain ⟨a0, a1, a2, _, _, _, a6⟩ := K2.three6
      have K2 := Lib.hid K2
      have HG2 := HG.out.below hbel
      by_cases hk : j < n
      · obtain ⟨gg, o1, rfl, hb1, hc1⟩ := HG2 (by omega)
        obtain ⟨c0, c1, c2⟩ := hc1 j hk
        have HB := Lib.hid hbel
        have hgj := Lib.hid (RG.out j hk)
        clear hc1 HG2 hbel
        obtain ⟨⟨op, a, b⟩, hx⟩ : ∃ x, x = g j := ⟨_, rfl⟩
        rw [← hx] at c0 c1 c2 hgj
        have HX := Lib.hid hx
        clear hx
        simp only at c0 c1 c2
        have BY := Lib.hid ((Below.refl wr.heap.size wr).alloc (Nat.le_refl _) (.cells #[.int .i64 op, .int .i64 a, .int .i64 b] 57))
        have CALL := Lib.hid (fun w => rgate_any a b ((i : Int) + (j : Int)) w op)
        obtain ⟨v, hv⟩ : ∃ v, v = rg (op, a, b) ((i : Int) + (j : Int)) := ⟨_, rfl⟩
        rw [← hv] at CALL hgj
        have HV := Lib.hid hv
        clear hv
        have hgw : gg < wr.heap.size := Nat.lt_of_lt_of_le hb1 HB.out.size
        cases v with
        | true =>
          go_wp2_with (go_at_call 102; (with_reducible refine (CALL.out _).mono ?_); rintro e w3 ⟨rfl, hb⟩; have B3 := Lib.hid (BY.out.trans (hb.mono BY.out.size)); clear hb)
          go_roundw
          case rel => exact ⟨j + 1, by omega, by go_num, Lib.hid (fun k hk => by
            by_cases e : k < j
            · exact HJ.out k e
            · obtain rfl : k = j := by omega
              rw [← HX.out]; exact HV.out.symm), HB.out.trans (B3.out.mono HB.out.size)⟩
          case measure => simp [intOf]; omega
        | false =>
          have hbf : b = b := rfl
          go_wp2_with (go_at_call 102; (with_reducible refine (CALL.out _).mono ?_); rintro e w3 ⟨rfl, hb⟩; have B3 := Lib.hid (BY.out.trans (hb.mono BY.out.size)); clear hb)
          go_ret
          exact ⟨ret_bool (hgj.out (by trivial)).symm, B1.out.trans ((HB.out.trans (B3.out.mono HB.out.size)).mono B1.out.size)⟩
      · obtain rfl : j = n := by omega
        have HB := Lib.hid hbel
        clear HG2 hbel
        go_wp2
        go_loopw [46] (fun iv wq => ∃ s : Nat, s ≤ q ∧ iv = .int .i64 (s : Int) ∧ Hid (∀ k, k < s → isw (ig o k) ((i : Int) + (j : Int)) = true) ∧ wq = wr) (fun iv _ => q - (intOf iv).toNat)
        case atStart => exact ⟨0, Nat.zero_le _, rfl, Lib.hid (fun k hk => absurd hk (by omega)), by trivial⟩
        case round =>
          obtain ⟨s, hs, rfl, HS, rfl⟩ := hrel
          by_cases hsq : s < q
          · obtain ⟨ad, rfl, hbo, hc⟩ := il_at (HO.out.below HB.out) hsq
            have hgj := Lib.hid (RO.out s hsq)
            have CALL := Lib.hid (fun w => isWire_any (ig o s) ((i : Int) + (j : Int)) w)
            obtain ⟨v, hv⟩ : ∃ v, v = isw (ig o s) ((i : Int) + (j : Int)) := ⟨_, rfl⟩
            rw [← hv] at CALL hgj
            have HV := Lib.hid hv
            clear hv
            obtain ⟨x, hx⟩ : ∃ x, x = ig o s := ⟨_, rfl⟩
            rw [← hx] at hc CALL HV
            have HX := Lib.hid hx
            clear hx
            cases v with
            | true =>
              go_wp2_with (go_at_call 103; (with_reducible refine (CALL.out _).mono ?_); rintro e w3 ⟨rfl, rfl⟩)
              go_roundw
              case rel => exact ⟨s + 1, by omega, by go_num, Lib.hid (fun k hk => by
                by_cases e : k < s
                · exact HS.out k e
                · obtain rfl : k = s := by omega
                  rw [← HX.out]; exact HV.out.symm), by trivial⟩
              case measure => simp [intOf]; omega
            | false =>
              go_wp2_with (go_at_call 103; (with_reducible refine (CALL.out _).mono ?_); rintro e w3 ⟨rfl, rfl⟩)
              go_ret
              exact ⟨ret_bool (hgj.out (by trivial)).symm, B1.out.trans (HB.out.mono B1.out.size)⟩
          · obtain rfl : s = q := by omega
            have hy := RY.out HJ.out HS.out
            have HY := Lib.hid hy
            clear hy
            go_wp2
            go_ret
            exact ⟨ret_bool HY.out.symm, B1.out.trans (HB.out.mono B1.out.size)⟩
  · rw [rt_no hok]
    exact right_bad AG AO cG cO C w hok hm hl
theorem fits_any (AG AO : Option Addr) (cG cO : Nat) (C : Cr) (k : Int) (w : World) (h : CS w AG AO C) (hm : C.n ≤ 1000000) (hl : C.o.length ≤ 1000000) :
    Calls Try.prog 35 #[.agg #[.int .i64 C.ins, .slice AG C.n cG, .slice AO C.o.length cO], .int .i64 k] w fun e w' => e = .returned (.bool (decide (C.ins = k) && rt C)) ∧ Below w.heap.size w w' := by
  have B1 := Lib.hid ((Below.refl w.heap.size w).alloc (Nat.le_refl _) (.cells #[.int .i64 C.ins, .slice AG C.n cG, .slice AO C.o.length cO] 34))
  have R := Lib.hid (right_any AG AO cG cO C _ (h.later B1.out) hm hl)
  generalize rt C = b at *
  obtain ⟨I, n, g, o⟩ := C
  simp only at *
  generalize o.length = q at *
  by_cases e : I = k
  · subst e
    go_enter Try.func35, Try.ntmps35
    go_wp2_with (go_at_call 65; (with_reducible refine R.out.mono ?_); rintro e w3 ⟨rfl, hb⟩; have B3 := Lib.hid (B1.out.trans (hb.mono B1.out.size)); clear hb)
    go_ret
    exact ⟨ret_bool (by simp), B3.out⟩
  · rw [decide_eq_false e]
    have e' : (I == k) = false := by rw [beq_eq_false_iff_ne]; exact e
    clear e
    go_enter Try.func35, Try.ntmps35
    go_wp2
    go_ret
    exact ⟨rfl, B1.out⟩
end Go.Proofs.Ytnhkgkpjkgifoaa
namespace Go.Proofs.Ytnhkgkpjkgifoaa
open Go.RowKit

theorem rg_ops {op a b n : Int} (h : rg (op, a, b) n = true) : op = 0 ∨ op = 1 ∨ op = 2 ∨ op = 3 ∨ op = 4 ∨ op = 5 := by
  unfold rg at h
  simp only at h
  split at h
  · omega
  · split at h
    · omega
    · split at h
      · omega
      · cases h
end Go.Proofs.Ytnhkgkpjkgifoaa
